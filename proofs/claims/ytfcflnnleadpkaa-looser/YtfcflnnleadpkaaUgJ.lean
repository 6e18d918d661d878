import Derived.Test.YtfcflnnleadpkaaTmJ
namespace Go.Proofs.Ytfcflnnleadpkaa

/-! A byte ahead of the statements turned. -/
section
variable {c c' : Nat → Int} {nv N b : Nat}

theorem thenS_congr {r r' : Nat × Bool × List Nat} {g g' : Nat → List Nat → Nat × Bool × List Nat} (h : r = r') (k : r.2.1 = false → g r.1 r.2.2 = g' r.1 r.2.2) : thenS r g = thenS r' g' := by
  subst h
  unfold thenS
  split
  · rfl
  · rename_i h2; exact k (by simpa using h2)
theorem thenE_congr {e e' : Nat × Bool} {C : List Nat} {g g' : Nat → Nat × Bool × List Nat} (h : e = e') (k : g e.1 = g' e.1) : thenE e C g = thenE e' C g' := by
  subst h
  unfold thenE
  split
  · rfl
  · exact k
theorem scE_cong (h : ∀ j, b ≤ j → c j = c' j) : ∀ f i, b ≤ i → scE c nv f i = scE c' nv f i := by
  intro f
  induction f with
  | zero => intro i _; rfl
  | succ f ih =>
    intro i hi
    have h1 := ih (i + 1) (by omega)
    have h2 := scE_le c' nv f (i + 1)
    simp only [scE]
    rw [h i hi, h1, ih _ (by omega)]
theorem thenS_le {i : Nat} {r : Nat × Bool × List Nat} {g : Nat → List Nat → Nat × Bool × List Nat} (h : i ≤ r.1) (k : i ≤ (g r.1 r.2.2).1) : i ≤ (thenS r g).1 := by
  unfold thenS; split
  · exact h
  · exact k
theorem thenE_le {i : Nat} {e : Nat × Bool} {C : List Nat} {g : Nat → Nat × Bool × List Nat} (h : i ≤ e.1) (k : i ≤ (g e.1).1) : i ≤ (thenE e C g).1 := by
  unfold thenE; split
  · exact h
  · exact k
theorem scS_le : ∀ (f i : Nat) (C : List Nat), i ≤ (scS c nv N f i C).1 := by
  intro f
  induction f with
  | zero => intro i C; exact Nat.le_refl _
  | succ f ih =>
    intro i C
    simp only [scS]
    have e1 := scE_le c nv f (i + 1)
    have e2 := scE_le c nv f (i + 2)
    split
    · simp
    split
    · have := ih (i + 1) C
      exact thenS_le (by omega) (Nat.le_trans (by omega) (ih _ _))
    split
    · split
      · exact thenE_le (by omega) (by simp only; omega)
      · simp
    split
    · refine thenE_le (by omega) (thenS_le (Nat.le_trans (by omega) (ih _ _)) (Nat.le_trans (Nat.le_trans (by omega) (ih _ C)) (ih _ _)))
    split
    · exact thenE_le (by omega) (Nat.le_trans (by omega) (ih _ _))
    split
    · split
      · split <;> simp
      · simp
    split
    · split
      · exact thenE_le (by omega) (by simp only; omega)
      · simp
    split
    · split <;> simp
    · simp
theorem scS_cong (h : ∀ j, b ≤ j → c j = c' j) : ∀ (f i : Nat) (C : List Nat), b ≤ i → scS c nv N f i C = scS c' nv N f i C := by
  intro f
  induction f with
  | zero => intro i C _; rfl
  | succ f ih =>
    intro i C hi
    have hE1 := scE_cong (nv := nv) h f (i + 1) (by omega)
    have hE2 := scE_cong (nv := nv) h f (i + 2) (by omega)
    have l1 := scE_le c nv f (i + 1)
    simp only [scS]
    rw [h i hi, h (i + 1) (by omega), h (i + 2) (by omega)]
    split
    · rfl
    split
    · exact thenS_congr (ih _ _ (by omega)) (fun _ => ih _ _ (Nat.le_trans (by omega) (scS_le _ _ _)))
    split
    · split
      · exact thenE_congr hE2 rfl
      · rfl
    split
    · refine thenE_congr hE1 (thenS_congr (ih _ _ (by omega)) (fun _ => ih _ _ (Nat.le_trans (Nat.le_trans (by omega) (Nat.le_refl _)) (scS_le _ _ _))))
    split
    · exact thenE_congr hE1 (ih _ _ (by omega))
    split
    · rfl
    split
    · split
      · exact thenE_congr hE2 rfl
      · rfl
    split
    · rfl
    · rfl
/-- The calls' places. -/
def CalB (b : Nat) (r : Nat × Bool × List Nat) : Prop := ∀ k, k ∈ r.2.2 → b ≤ k
theorem scS_cal : ∀ (f i : Nat) (C : List Nat), b ≤ i → (∀ k, k ∈ C → b ≤ k) → CalB b (scS c nv N f i C) := by
  intro f
  induction f with
  | zero => intro i C _ hC; exact hC
  | succ f ih =>
    intro i C hi hC
    have l1 := scE_le c nv f (i + 1)
    have th : ∀ (r : Nat × Bool × List Nat), b ≤ r.1 → CalB b r → CalB b (thenS r (scS c nv N f)) := by
      intro r h1 h2
      unfold thenS; split
      · exact h2
      · exact ih _ _ h1 h2
    simp only [scS]
    split
    · exact hC
    split
    · exact th _ (Nat.le_trans (by omega) (scS_le _ _ _)) (ih _ _ (by omega) hC)
    split
    · split
      · unfold thenE; split
        · exact hC
        · exact hC
      · exact hC
    split
    · unfold thenE; split
      · exact hC
      · exact th _ (Nat.le_trans (by omega) (scS_le _ _ _)) (ih _ _ (by omega) hC)
    split
    · unfold thenE; split
      · exact hC
      · exact ih _ _ (by omega) hC
    split
    · split
      · split <;> exact hC
      · exact hC
    split
    · split
      · unfold thenE; split
        · exact hC
        · exact hC
      · exact hC
    split
    · have : ∀ k, k ∈ C ++ [i + 1] → b ≤ k := by
        intro k hk
        rcases List.mem_append.1 hk with h | h
        · exact hC k h
        · rw [List.mem_singleton.1 h]; omega
      split <;> exact this
    · exact hC
theorem scPr_cong (h : ∀ j, b ≤ j → c j = c' j) {sz f : Nat} : ∀ (g i : Nat) (C P : List Nat), b ≤ i → scPr c nv N sz f g i C P = scPr c' nv N sz f g i C P := by
  intro g
  induction g with
  | zero => intro i C P _; rfl
  | succ g ih =>
    intro i C P hi
    simp only [scPr]
    rw [h i hi, scS_cong h f (i + 1) C (by omega), ih _ _ _ (Nat.le_trans (by omega) (scS_le (c := c') f (i + 1) C))]
theorem scPr_cal {sz f : Nat} : ∀ (g i : Nat) (C P : List Nat), b ≤ i → (∀ k, k ∈ C → b ≤ k) → ∀ k, k ∈ (scPr c nv N sz f g i C P).2.2.1 → b ≤ k := by
  intro g
  induction g with
  | zero => intro i C P _ hC; exact hC
  | succ g ih =>
    intro i C P hi hC
    have hS := scS_cal (c := c) (nv := nv) (N := N) f (i + 1) C (by omega) hC
    simp only [scPr]
    split
    · split
      · split
        · exact hS
        · exact ih _ _ _ (Nat.le_trans (by omega) (scS_le f (i + 1) C)) hS
      · exact hC
    · exact hC
theorem scPr_pos {sz f : Nat} : ∀ (g i : Nat) (C P : List Nat), b ≤ i → (∀ k, k ∈ P → b ≤ k) → ∀ k, k ∈ (scPr c nv N sz f g i C P).2.2.2 → b ≤ k := by
  intro g
  induction g with
  | zero => intro i C P _ hP; exact hP
  | succ g ih =>
    intro i C P hi hP
    have hP2 : ∀ k, k ∈ P ++ [i + 1] → b ≤ k := by
      intro k hk
      rcases List.mem_append.1 hk with h | h
      · exact hP k h
      · rw [List.mem_singleton.1 h]; omega
    simp only [scPr]
    split
    · split
      · split
        · exact hP2
        · exact ih _ _ _ (Nat.le_trans (by omega) (scS_le f (i + 1) C)) hP2
      · exact hP
    · exact hP
theorem badCall_cong (h : ∀ j, b ≤ j → c j = c' j) {n : Nat} : ∀ (C : List Nat), (∀ k, k ∈ C → b ≤ k) → badCall c n C = badCall c' n C := by
  intro C
  induction C with
  | nil => intro _; rfl
  | cons k C ih =>
    intro hC
    simp only [badCall]
    rw [h k (hC k (List.mem_cons.2 (Or.inl rfl))), ih (fun j hj => hC j (List.mem_cons.2 (Or.inr hj)))]

variable {R : Nat → Nat → Bool} {n : Nat} {V T : Nat → Nat}
theorem labE_cong (h : ∀ j, b ≤ j → c j = c' j) : ∀ f i, b ≤ i → labE c R n V f i = labE c' R n V f i ∧ b ≤ (labE c R n V f i).1 := by
  intro f
  induction f with
  | zero => intro i hi; exact ⟨rfl, hi⟩
  | succ f ih =>
    intro i hi
    obtain ⟨h1, h2⟩ := ih (i + 1) (by omega)
    have h3 := ih _ h2
    simp only [labE]
    rw [h i hi, ← h1, ← h3.1]
    refine ⟨rfl, ?_⟩
    split
    · exact h3.2
    · split <;> (simp only; omega)
theorem condW_cong (h : ∀ j, b ≤ j → c j = c' j) {f i p : Nat} (hi : b ≤ i) : condW c R n V f i p = condW c' R n V f i p ∧ b ≤ (condW c R n V f i p).1 := by
  obtain ⟨h1, h2⟩ := labE_cong (R := R) (n := n) (V := V) h f i hi
  unfold condW
  rw [← h1]
  exact ⟨rfl, h2⟩
theorem wd_cong (h : ∀ j, b ≤ j → c j = c' j) : ∀ f i p, b ≤ i → wd c R n V T f i p = wd c' R n V T f i p ∧ b ≤ (wd c R n V T f i p).1 := by
  intro f
  induction f with
  | zero => intro i p hi; exact ⟨rfl, hi⟩
  | succ f ih =>
    intro i p hi
    have e0 := h i hi
    have e1 := h (i + 1) (by omega)
    have e2 := h (i + 2) (by omega)
    by_cases h1 : c i = 44 ∨ c i = 116
    · have h1' : c' i = 44 ∨ c' i = 116 := by rw [← e0]; exact h1
      obtain ⟨a1, a2⟩ := ih (i + 1) p (by omega)
      obtain ⟨b1, b2⟩ := ih _ (jn R n p (wd c R n V T f (i + 1) p).2.1) a2
      rw [wd_seq h1, wd_seq h1', ← e0, ← a1]
      simp only
      rw [← b1]
      exact ⟨rfl, b2⟩
    by_cases h2 : c i = 61
    · obtain ⟨a1, a2⟩ := condW_cong (R := R) (n := n) (V := V) h (f := f) (i := i + 2) (p := p) (by omega)
      rw [wd_eq h2, wd_eq (by rw [← e0]; exact h2), ← e1, ← a1]
      exact ⟨rfl, a2⟩
    by_cases h3 : c i = 105
    · obtain ⟨a1, a2⟩ := condW_cong (R := R) (n := n) (V := V) h (f := f) (i := i + 1) (p := p) (by omega)
      obtain ⟨b1, b2⟩ := ih _ (condW c R n V f (i + 1) p).2.1 a2
      obtain ⟨d1, d2⟩ := ih _ (condW c R n V f (i + 1) p).2.1 b2
      rw [wd_i h3, wd_i (by rw [← e0]; exact h3), ← a1]
      simp only
      rw [← b1, ← d1]
      exact ⟨rfl, d2⟩
    by_cases h4 : c i = 119
    · obtain ⟨a1, a2⟩ := condW_cong (R := R) (n := n) (V := V) h (f := f) (i := i + 1) (p := p) (by omega)
      rw [wd_w h4, wd_w (by rw [← e0]; exact h4), ← a1]
      simp only
      obtain ⟨b1, b2⟩ := ih _ (jn R n (condW c R n V f (i + 1) p).2.1 (condW c R n V f (i + 1) p).2.2) a2
      rw [← b1, ← (ih _ _ a2).1]
      exact ⟨rfl, b2⟩
    by_cases h5 : c i = 114
    · rw [wd_r h5, wd_r (by rw [← e0]; exact h5), ← e1, ← e2]
      exact ⟨rfl, by simp only; omega⟩
    by_cases h6 : c i = 111
    · obtain ⟨a1, a2⟩ := condW_cong (R := R) (n := n) (V := V) h (f := f) (i := i + 2) (p := p) (by omega)
      rw [wd_o h6, wd_o (by rw [← e0]; exact h6), ← e1, ← a1]
      exact ⟨rfl, a2⟩
    by_cases h7 : c i = 120
    · rw [wd_x h7, wd_x (by rw [← e0]; exact h7)]
      exact ⟨rfl, by simp only; omega⟩
    by_cases h8 : c i = 99
    · rw [wd_c h8, wd_c (by rw [← e0]; exact h8), ← e1]
      exact ⟨rfl, by simp only; omega⟩
    simp only [wd]
    rw [← e0, if_neg h1, if_neg h2, if_neg h3, if_neg h4, if_neg h5, if_neg h6, if_neg h7, if_neg h8, if_neg h1, if_neg h2, if_neg h3, if_neg h4, if_neg h5, if_neg h6, if_neg h7, if_neg h8]
    exact ⟨rfl, by simp only; omega⟩
end

/-- A text in which one variable's byte is turned to a question mark. -/
structure Freed (s s' : ByteArray) (n v : Nat) : Prop where
  size : s'.size = s.size
  lt : v < prNv s n
  at' : bt s' v = 63
  other : ∀ k, k ≠ v → bt s' k = bt s k
section
variable {s s' : ByteArray} {n v : Nat}
theorem cntV_free {c c' : Nat → Int} {N v : Nat} (hv : c' v = 63) (ho : ∀ k, k ≠ v → c' k = c k) : ∀ f k, v < cntV c N f k → cntV c' N f k = cntV c N f k := by
  intro f
  induction f with
  | zero => intro k _; rfl
  | succ f ih =>
    intro k hlt
    simp only [cntV] at hlt ⊢
    by_cases e : k = v
    · subst e
      have h1 : vb N (c' k) = true := by rw [hv]; rfl
      rw [if_pos h1]
      split at hlt
      · rename_i h2
        rw [if_pos h2]
        exact ih _ hlt
      · omega
    · rw [ho k e]
      split at hlt
      · rename_i h2
        rw [if_pos h2, if_pos h2]
        exact ih _ hlt
      · rename_i h2
        rw [if_neg h2, if_neg h2]
theorem Freed.nv (h : Freed s s' n v) : prNv s' n = prNv s n := cntV_free h.at' h.other 8 0 h.lt
theorem Freed.agree (h : Freed s s' n v) : ∀ j, prNv s n ≤ j → bt s' j = bt s j := fun j hj => h.other j (by have := h.lt; omega)
theorem Freed.prA (h : Freed s s' n v) : prA s' n = prA s n := by
  have hn := h.nv
  unfold prNv at hn
  unfold Go.Proofs.Ytfcflnnleadpkaa.prA parseAll
  rw [hn, h.size]
  have ha := h.agree
  unfold prNv at ha
  have h1 := scS_cong (nv := nvOf (bt s) n) (N := n) ha (s.size + 1) (nvOf (bt s) n + 1) [] (by omega)
  rw [ha _ (Nat.le_refl _), h1, scPr_cong (nv := nvOf (bt s) n) (N := n) ha 5 _ _ _ (Nat.le_trans (by omega) (scS_le _ _ _))]
theorem Freed.ps (h : Freed s s' n v) : prPs s' n = prPs s n := by unfold prPs; rw [h.prA]
theorem prA_cal : ∀ k, k ∈ (prA s n).2.2.1 → prNv s n ≤ k := by
  have hS := scS_cal (c := bt s) (nv := nvOf (bt s) n) (N := n) (b := nvOf (bt s) n) (s.size + 1) (nvOf (bt s) n + 1) [] (by omega) (fun k hk => by simp at hk)
  unfold prA parseAll prNv
  split
  · split
    · exact hS
    · exact scPr_cal 5 _ _ _ (Nat.le_trans (by omega) (scS_le _ _ _)) hS
  · intro k hk; simp at hk
theorem Freed.prE (h : Freed s s' n v) : prE s' n = prE s n := by
  unfold Go.Proofs.Ytfcflnnleadpkaa.prE prC
  rw [h.prA, h.size, badCall_cong h.agree _ prA_cal]
theorem prPs_pos : ∀ k, k ∈ prPs s n → prNv s n ≤ k := by
  unfold prPs prA parseAll prNv
  split
  · split
    · intro k hk; simp at hk
    · exact scPr_pos 5 _ _ _ (Nat.le_trans (by omega) (scS_le _ _ _)) (fun k hk => by simp at hk)
  · intro k hk; simp at hk
theorem Freed.tdP (h : Freed s s' n v) {R : Nat → Nat → Bool} {f : Nat} {V X T : Nat → Nat} {k : Nat} (hk : prNv s n ≤ (prPs s n).getD k 0) : tdP (pE R s' n) f V X T k = tdP (pE R s n) f V X T k := by
  unfold Go.Proofs.Ytfcflnnleadpkaa.tdP
  have e : ((pE R s' n).P k) = ((pE R s n).P k) := by simp only [pE]; rw [h.ps]
  rw [e]
  exact (wd_cong h.agree f _ _ hk).1
theorem Freed.allD (h : Freed s s' n v) {R : Nat → Nat → Bool} {f : Nat} {V X T : Nat → Nat} : ∀ k, k ≤ (prPs s n).length → allD (pE R s' n) f V X T k = allD (pE R s n) f V X T k := by
  intro k
  induction k with
  | zero =>
    intro _
    simp only [Go.Proofs.Ytfcflnnleadpkaa.allD]
    unfold tdM
    have e : (pE R s' n).main = (pE R s n).main := by simp only [pE]; rw [h.nv]
    rw [e]
    exact congrArg (fun r => r.2.2) (wd_cong h.agree f _ _ (show prNv s n ≤ prNv s n + 1 by omega)).1
  | succ k ih =>
    intro hk
    simp only [Go.Proofs.Ytfcflnnleadpkaa.allD]
    rw [ih (by omega), h.tdP (prPs_pos _ (by simp [show k < (prPs s n).length from hk]))]
/-- The levels in the text: one fewer. -/
theorem Freed.fx (h : Freed s s' n v) {k : Nat} (hf : 0 ≤ fixV (bt s') n k) : fixV (bt s') n k = fixV (bt s) n k := by
  by_cases e : k = v
  · subst e
    have : fixV (bt s') n k = -1 := by
      unfold fixV
      rw [h.at']
      unfold dgt
      rw [if_neg]
      intro hd
      have := (isDB_iff _ _).1 hd
      omega
    omega
  · unfold fixV; rw [h.other k e]
/-- A program that is taken is taken, too, where a level is to be worked out; and no level rises. -/
theorem Freed.looser {o : ByteArray} (h : Freed s s' n v) (hr : ReadPost o 0 0 n) (he : Go.Proofs.Ytfcflnnleadpkaa.prE s n = 0) (hb : ckB o s n < 0) :
    ReadPost o 0 0 n ∧ Go.Proofs.Ytfcflnnleadpkaa.prE s' n = 0 ∧ ckB o s' n < 0 ∧ Bel (cl o n) n (prNv s n) (ckL o s' n).V (ckL o s n).V ∧ Bel (cl o n) n (prPs s n).length (ckL o s' n).X (ckL o s n).X ∧ Bel (cl o n) n (prPs s n).length (ckL o s' n).T (ckL o s n).T := by
  have K := known hr he
  have he' : Go.Proofs.Ytfcflnnleadpkaa.prE s' n = 0 := by rw [h.prE]; exact he
  have K' := known hr he'
  have L := K.low
  have L' := K'.low
  have F := L.fits K.A hb
  have env : ∀ k, k < (pE (cl o n) s' n).nv → k < (pE (cl o n) s n).nv := fun k hk => by simp only [pE] at hk ⊢; rw [← h.nv]; exact hk
  have enp : ∀ k, k < (pE (cl o n) s' n).np → k < (pE (cl o n) s n).np := fun k hk => by simp only [pE] at hk ⊢; rw [← h.ps]; exact hk
  have hsz : s'.size + 1 = s.size + 1 := by rw [h.size]
  have F' : FitW (pE (cl o n) s' n) (s'.size + 1) (ckL o s n).V (ckL o s n).X (ckL o s n).T := by
    refine ⟨fun d hd => ?_, fun k hk => ?_⟩
    · have e1 : (pE (cl o n) s' n).np = (prPs s n).length := by simp only [pE]; rw [h.ps]
      rw [e1, hsz, h.allD _ (Nat.le_refl _)] at hd
      exact F.dem d hd
    · have hk' := enp k hk
      have e2 := h.tdP (R := cl o n) (f := s.size + 1) (V := (ckL o s n).V) (X := (ckL o s n).X) (T := (ckL o s n).T) (k := k) (prPs_pos _ (by simp [show k < (prPs s n).length from hk']))
      rw [hsz, e2]
      exact F.thr k hk'
  have hF : Fixd (pE (cl o n) s' n) (ckL o s n).V := by
    intro k hk hf
    have hf' : 0 ≤ fixV (bt s') n k := hf
    have e := h.fx hf'
    have := L.fx k (env k hk) (show 0 ≤ fixV (bt s) n k by rw [← e]; exact hf')
    show ((ckL o s n).V k : Int) = fixV (bt s') n k
    rw [e]; exact this
  obtain ⟨g1, g2, g3, g4⟩ := L'.fit K'.A K'.Q (fun k hk => L.iv k (env k hk)) (fun k hk => L.ix k (enp k hk)) (fun k hk => L.it k (enp k hk)) hF F'
  refine ⟨hr, he', (fitW_iff.1 g1).2, fun k hk => g2 k ?_, fun k hk => g3 k ?_, fun k hk => g4 k ?_⟩
  · simp only [pE]; rw [h.nv]; exact hk
  · simp only [pE]; rw [h.ps]; exact hk
  · simp only [pE]; rw [h.ps]; exact hk
end

end Go.Proofs.Ytfcflnnleadpkaa
