import Derived.Test.YtfcflnnleadpkabGbJ
import Derived.Deep.LoopGhost
namespace Go.Proofs.Ytfcflnnleadpkab

section
variable {c : Nat → Int} {sz nv N f a j : Nat} {r : RdS}

theorem scE_in (hc : ∀ a, sz ≤ a → c a = 0) : ∀ f a j, scE c nv f a = (j, false) → j ≤ sz := by
  intro f
  induction f with
  | zero => intro a j h; simp [scE] at h
  | succ f ih =>
    intro a j h
    cases ho : isOp (c a)
    · obtain ⟨rfl, h2⟩ := scE_inv_leaf h ho
      by_cases ha : a < sz
      · omega
      · have := hc a (by omega)
        rw [this] at h2
        rcases h2 with h2 | ⟨_, h2⟩
        · cases h2
        · unfold isVar at h2; simp at h2
    · obtain ⟨k, e1, e2⟩ := scE_inv_op h ho
      exact ih _ _ e2
theorem isOp_in (hc : ∀ a, sz ≤ a → c a = 0) (h : isOp (c a) = true) : a < sz := by
  by_cases ha : a < sz
  · exact ha
  · rw [hc a (by omega)] at h; cases h
theorem isVar_in (hc : ∀ a, sz ≤ a → c a = 0) (h : isVar nv (c a) = true) : a < sz := by
  by_cases ha : a < sz
  · exact ha
  · rw [hc a (by omega)] at h; unfold isVar at h; simp at h
theorem isDB_in {m : Int} (hc : ∀ a, sz ≤ a → c a = 0) (h : isDB (c a) m = true) : a < sz := by
  by_cases ha : a < sz
  · exact ha
  · rw [hc a (by omega)] at h; have := (isDB_iff _ _).1 h; omega
/-- A part that is a byte. -/
theorem rd_one {k : Int} {b : Bool} (he : r.e = 0) (hf : f ≠ 0) (hp : ptI nv N k (c a) = yesI b) (hk : k ≠ 112) (hin : b = true → a < sz) : rdP c sz nv N f k a r = if b = true then (a + 1, r) else (a, refR r a) := by
  obtain ⟨m, rfl⟩ : ∃ m, f = m + 1 := ⟨f - 1, by omega⟩
  cases b
  · rw [if_neg (by simp)]
    by_cases ha : a < sz
    · exact rdP_bad he ha hp
    · exact rdP_end he ha
  · rw [if_pos rfl, rdP_go he (hin rfl) hp, if_neg hk]; rfl
theorem rd_call {b : Bool} (he : r.e = 0) (hf : f ≠ 0) (hp : ptI nv N 112 (c a) = yesI b) (hin : b = true → a < sz) : rdP c sz nv N f 112 a r = if b = true then (a + 1, { r with C := r.C ++ [a] }) else (a, refR r a) := by
  obtain ⟨m, rfl⟩ : ∃ m, f = m + 1 := ⟨f - 1, by omega⟩
  cases b
  · rw [if_neg (by simp)]
    by_cases ha : a < sz
    · exact rdP_bad he ha hp
    · exact rdP_end he ha
  · rw [if_pos rfl, rdP_go he (hin rfl) hp, if_pos rfl]; rfl

theorem rdE_ok (hc : ∀ a, sz ≤ a → c a = 0) : ∀ (f a : Nat) (r : RdS), r.e = 0 → a ≤ sz → sz < a + f →
    (∀ j, scE c nv f a = (j, false) → ∃ T', rdP c sz nv N f 101 a r = (j, { r with T := T' }) ∧ tbE c nv T' f a ∧ Out a j r.T T') ∧ (∀ j, scE c nv f a = (j, true) → Flt j (rdP c sz nv N f 101 a r)) := by
  intro f
  induction f with
  | zero => intro a r _ h1 h2; omega
  | succ f ih =>
    intro a r he h1 h2
    cases ho : isOp (c a)
    · cases hd : (isDB (c a) 10 || isVar nv (c a))
      · have hd2 : isDB (c a) 10 = false ∧ isVar nv (c a) = false := by simpa using hd
        have hs := scE_bad (f := f) ho hd2.1 hd2.2
        rw [hs]
        refine ⟨fun j h => by simp at h, fun j h => ?_⟩
        simp at h
        subst h
        have hp : ptI nv N 101 (c a) = none := by
          show exI nv (c a) = none
          unfold exI; rw [if_neg (by simp [ho]), hd]; rfl
        by_cases ha : a < sz
        · rw [rdP_bad he ha hp]; exact refR_flt he
        · rw [rdP_end he ha]; exact refR_flt he
      · have ha : a < sz := by
          rcases Bool.or_eq_true_iff.1 hd with h | h
          · exact isDB_in hc h
          · exact isVar_in hc h
        have hs : scE c nv (f + 1) a = (a + 1, false) := by
          cases h10 : isDB (c a) 10
          · rw [h10, Bool.false_or] at hd; exact scE_var ho h10 hd
          · exact scE_dig ho h10
        rw [hs]
        refine ⟨fun j h => ?_, fun j h => by simp at h⟩
        simp at h
        subst h
        have hp : ptI nv N 101 (c a) = some (bs []) := by
          show exI nv (c a) = some (bs [])
          unfold exI; rw [if_neg (by simp [ho]), hd]; rfl
        refine ⟨r.T, ?_, fun h => (by rw [ho] at h; cases h), fun _ _ _ => rfl⟩
        rw [rdP_go he ha hp, if_neg (by omega)]; rfl
    · have ha : a < sz := isOp_in hc ho
      have hp : ptI nv N 101 (c a) = some (bs [101, 101]) := by
        show exI nv (c a) = _
        unfold exI; rw [if_pos ho]
      have hgo : rdP c sz nv N (f + 1) 101 a r = two (rdP c sz nv N f) a 1 101 (two (rdP c sz nv N f) a 0 101 (a + 1, r)) := by
        rw [rdP_go he ha hp, if_neg (by omega), rdL_2']; rfl
      rw [hgo]
      obtain ⟨i1, i2⟩ := ih (a + 1) { r with T := setT r.T a 0 ((a + 1 : Nat) : Int) } he (by omega) (by omega)
      have e0 : two (rdP c sz nv N f) a 0 101 (a + 1, r) = rdP c sz nv N f 101 (a + 1) { r with T := setT r.T a 0 ((a + 1 : Nat) : Int) } := rfl
      rw [scE_op ho]
      obtain ⟨k, hk⟩ : ∃ k, (scE c nv f (a + 1)).1 = k := ⟨_, rfl⟩
      cases hb : (scE c nv f (a + 1)).2
      · have hs1 : scE c nv f (a + 1) = (k, false) := Prod.ext hk hb
        obtain ⟨T1, r1, tb1, o1⟩ := i1 k hs1
        replace o1 : Out (a + 1) k (setT r.T a 0 ((a + 1 : Nat) : Int)) T1 := o1
        have l1 := scE_lt3 _ _ _ hs1
        have in1 := scE_in hc _ _ _ hs1
        rw [if_neg (by simp), hk, e0, r1]
        have e1 : two (rdP c sz nv N f) a 1 101 (k, { r with T := T1 }) = rdP c sz nv N f 101 k { r with T := setT T1 a 1 (k : Int) } := rfl
        have e2 : two (rdP c sz nv N f) a 1 101 (k, { ({ r with T := setT r.T a 0 ((a + 1 : Nat) : Int) } : RdS) with T := T1 }) = rdP c sz nv N f 101 k { r with T := setT T1 a 1 (k : Int) } := e1
        rw [e2]
        obtain ⟨j1, j2⟩ := ih k { r with T := setT T1 a 1 (k : Int) } he in1 (by omega)
        refine ⟨fun j h => ?_, fun j h => j2 j h⟩
        obtain ⟨T2, r2, tb2, o2⟩ := j1 j h
        replace o2 : Out k j (setT T1 a 1 (k : Int)) T2 := o2
        have l2 := scE_lt3 _ _ _ h
        refine ⟨T2, r2, fun _ => ?_, ?_⟩
        · rw [hk]
          refine ⟨?_, ?_, ?_, tb2⟩
          · rw [o2 a 0 (by omega), setT_ne (by omega), o1 a 0 (by omega), setT_get]
          · rw [o2 a 1 (by omega), setT_get]
          · refine tbE_keep _ _ _ hs1 (fun x i g1 g2 => ?_) tb1
            rw [o2 x i (by omega)]
            exact (Out.set (T := T1) (a := a) (i := 1) (x := (k : Int))) x i (by omega)
        · intro x i hx
          rw [o2 x i (by omega), (Out.set (T := T1) (a := a) (i := 1) (x := (k : Int))) x i (by omega), o1 x i (by omega)]
          exact (Out.set (T := r.T) (a := a) (i := 0)) x i (by omega)
      · have hs1 : scE c nv f (a + 1) = (k, true) := Prod.ext hk hb
        rw [if_pos rfl, hs1, e0]
        refine ⟨fun j h => by simp at h, fun j h => ?_⟩
        simp at h
        subst h
        exact (i2 k hs1).two

theorem wf4_of {C D : List Nat} (h : scS c nv N f a C = (j, false, D)) : wfS c nv N 4 f a = (j, false) := (scS_wf (np := 4) f a j C D h).2 (fun _ _ h => h)
theorem wfS_in {np : Nat} (hc : ∀ a, sz ≤ a → c a = 0) : ∀ f a j, wfS c nv N np f a = (j, false) → j ≤ sz := by
  intro f
  induction f with
  | zero => intro a j h; simp [wfS] at h
  | succ f ih =>
    intro a j h
    have hin : c a ≠ 0 → a < sz := fun h0 => by
      by_cases ha : a < sz
      · exact ha
      · exact absurd (hc a (by omega)) h0
    rcases wfS_letter h with hl | hl | hl | hl | hl | hl | hl | hl
    · have := wfS_inv_plain h hl
      have := hin (by omega); omega
    · obtain ⟨k, e1, e2⟩ := wfS_inv_seq h hl
      exact ih _ _ e2
    · obtain ⟨e1, e2⟩ := wfS_inv_eq h hl
      exact scE_in hc _ _ _ e2
    · obtain ⟨k, m, e1, e2, e3⟩ := wfS_inv_i h hl
      exact ih _ _ e3
    · obtain ⟨k, e1, e2⟩ := wfS_inv_w h hl
      exact ih _ _ e2
    · obtain ⟨e1, e2, rfl⟩ := wfS_inv_r h hl
      have := isVar_in hc e2; omega
    · obtain ⟨e1, e2⟩ := wfS_inv_o h hl
      exact scE_in hc _ _ _ e2
    · obtain ⟨e1, rfl⟩ := wfS_inv_c h hl
      have := isDB_in hc e1; omega

/-- What the reader of statements comes to. -/
def SRd (c : Nat → Int) (sz nv N f a : Nat) (r : RdS) : Prop :=
  (∀ j D, scS c nv N f a r.C = (j, false, D) → ∃ T', rdP c sz nv N f 115 a r = (j, { r with C := D, T := T' }) ∧ tbS c nv N 4 T' f a ∧ Out a j r.T T') ∧ (∀ j D, scS c nv N f a r.C = (j, true, D) → Flt j (rdP c sz nv N f 115 a r))

section letters
theorem srd_go (hc : ∀ a, sz ≤ a → c a = 0) (he : r.e = 0) (h1 : a ≤ sz) (h2 : sz < a + (f + 1)) {inn : ByteArray} (hl : c a ≠ 0) (hp : stI (c a) = some inn) : a < sz ∧ rdP c sz nv N (f + 1) 115 a r = rdL (rdP c sz nv N f) a inn inn.size 0 (a + 1) r := by
  have ha : a < sz := by
    by_cases ha : a < sz
    · exact ha
    · exact absurd (hc a (by omega)) hl
  have _ := h1
  have _ := h2
  refine ⟨ha, ?_⟩
  rw [rdP_go he ha (show ptI nv N 115 (c a) = some inn from hp), if_neg (by omega)]
theorem srd_plain (hc : ∀ a, sz ≤ a → c a = 0) (he : r.e = 0) (h1 : a ≤ sz) (h2 : sz < a + (f + 1)) (hl : c a = 46 ∨ c a = 120) : SRd c sz nv N (f + 1) a r := by
  obtain ⟨ha, hg⟩ := srd_go (nv := nv) (N := N) hc he h1 h2 (inn := bs []) (by omega) (by unfold stI; rw [if_pos hl])
  unfold SRd
  rw [hg]
  have hs : scS c nv N (f + 1) a r.C = (a + 1, false, r.C) := by simp only [scS]; rw [if_pos hl]
  rw [hs]
  refine ⟨fun j D h => ?_, fun j D h => by simp at h⟩
  simp at h
  obtain ⟨rfl, rfl⟩ := h
  exact ⟨r.T, rfl, ⟨fun h => by omega, fun h => by omega, fun h => by omega, fun h => by omega, fun h => by omega, fun h => by omega, fun h => by omega⟩, fun _ _ _ => rfl⟩
/-- Two statements, one behind the other, as the parts m and m + 1. -/
theorem srd_two (hc : ∀ a, sz ≤ a → c a = 0) (he : r.e = 0) (h1 : a ≤ sz) (h2 : sz < a + (f + 1)) (ih : ∀ (a : Nat) (r : RdS), r.e = 0 → a ≤ sz → sz < a + f → SRd c sz nv N f a r) {m x : Nat} (hx : x ≤ sz) (hax : a < x) :
    (∀ j D, thenS (scS c nv N f x r.C) (scS c nv N f) = (j, false, D) → ∃ T', two (rdP c sz nv N f) a (m + 1) 115 (two (rdP c sz nv N f) a m 115 (x, r)) = (j, { r with C := D, T := T' }) ∧
      ∃ k, wfS c nv N 4 f x = (k, false) ∧ wfS c nv N 4 f k = (j, false) ∧ tbS c nv N 4 T' f x ∧ tbS c nv N 4 T' f k ∧ T' a m = (x : Int) ∧ T' a (m + 1) = (k : Int) ∧ (∀ y i, y < x → (y ≠ a ∨ (i ≠ m ∧ i ≠ m + 1)) → T' y i = r.T y i) ∧ Out a j r.T T') ∧
    (∀ j D, thenS (scS c nv N f x r.C) (scS c nv N f) = (j, true, D) → Flt j (two (rdP c sz nv N f) a (m + 1) 115 (two (rdP c sz nv N f) a m 115 (x, r)))) := by
  have _ := h1
  obtain ⟨i1, i2⟩ := ih x { r with T := setT r.T a m (x : Int) } he hx (by omega)
  have e0 : two (rdP c sz nv N f) a m 115 (x, r) = rdP c sz nv N f 115 x { r with T := setT r.T a m (x : Int) } := rfl
  rw [e0]
  obtain ⟨k, b, D1, hs⟩ : ∃ k b D1, scS c nv N f x r.C = (k, b, D1) := ⟨_, _, _, rfl⟩
  rw [hs]
  cases b
  · obtain ⟨T1, r1, tb1, o1⟩ := i1 k D1 hs
    replace o1 : Out x k (setT r.T a m (x : Int)) T1 := o1
    have w1 := wf4_of hs
    have l1 := wfS_lt3 _ _ _ w1
    have in1 := wfS_in hc _ _ _ w1
    rw [r1]
    have e1 : two (rdP c sz nv N f) a (m + 1) 115 (k, { ({ r with T := setT r.T a m (x : Int) } : RdS) with C := D1, T := T1 }) = rdP c sz nv N f 115 k { r with C := D1, T := setT T1 a (m + 1) (k : Int) } := rfl
    rw [e1]
    have ht : thenS (k, false, D1) (scS c nv N f) = scS c nv N f k D1 := by unfold thenS; rw [if_neg (by simp)]
    rw [ht]
    obtain ⟨j1, j2⟩ := ih k { r with C := D1, T := setT T1 a (m + 1) (k : Int) } he in1 (by omega)
    refine ⟨fun j D h => ?_, fun j D h => j2 j D h⟩
    obtain ⟨T2, r2, tb2, o2⟩ := j1 j D h
    replace o2 : Out k j (setT T1 a (m + 1) (k : Int)) T2 := o2
    have w2 := wf4_of h
    have l2 := wfS_lt3 _ _ _ w2
    have row : ∀ y i, y < k → T2 y i = setT T1 a (m + 1) (k : Int) y i := fun y i hy => o2 y i (by omega)
    refine ⟨T2, r2, k, w1, w2, tbS_keep _ _ _ w1 (fun y i g1 g2 => ?_) tb1, tb2, ?_, ?_, fun y i hy hne => ?_, fun y i hy => ?_⟩
    · rw [row y i (by omega)]
      exact (Out.set (T := T1) (a := a) (i := m + 1) (x := (k : Int))) y i (by omega)
    · rw [row a m (by omega), setT_ne (by omega), o1 a m (by omega), setT_get]
    · rw [row a (m + 1) (by omega), setT_get]
    · rw [row y i (by omega)]
      have e3 : setT T1 a (m + 1) (k : Int) y i = T1 y i := by unfold setT; rw [if_neg (by omega)]
      rw [e3, o1 y i (by omega)]
      show setT r.T a m (x : Int) y i = r.T y i
      unfold setT; rw [if_neg (by omega)]
    · rw [o2 y i (by omega), (Out.set (T := T1) (a := a) (i := m + 1) (x := (k : Int))) y i (by omega), o1 y i (by omega)]
      exact (Out.set (T := r.T) (a := a) (i := m)) y i (by omega)
  · have ht : thenS (k, true, D1) (scS c nv N f) = (k, true, D1) := by unfold thenS; rw [if_pos rfl]
    rw [ht]
    refine ⟨fun j D h => by simp at h, fun j D h => ?_⟩
    simp at h
    obtain ⟨rfl, rfl⟩ := h
    exact (i2 k D1 hs).two
theorem srd_seq (hc : ∀ a, sz ≤ a → c a = 0) (he : r.e = 0) (h1 : a ≤ sz) (h2 : sz < a + (f + 1)) (ih : ∀ (a : Nat) (r : RdS), r.e = 0 → a ≤ sz → sz < a + f → SRd c sz nv N f a r) (hl : c a = 44 ∨ c a = 116) : SRd c sz nv N (f + 1) a r := by
  obtain ⟨ha, hg⟩ := srd_go (nv := nv) (N := N) hc he h1 h2 (inn := bs [115, 115]) (by omega) (by unfold stI; rw [if_neg (by omega), if_pos hl])
  unfold SRd
  rw [hg, rdL_2']
  have hs : scS c nv N (f + 1) a r.C = thenS (scS c nv N f (a + 1) r.C) (scS c nv N f) := by simp only [scS]; rw [if_neg (by omega), if_pos hl]
  rw [hs]
  obtain ⟨s1, s2⟩ := srd_two (N := N) (nv := nv) hc he h1 h2 ih (m := 0) (x := a + 1) (by omega) (by omega)
  refine ⟨fun j D h => ?_, fun j D h => s2 j D h⟩
  obtain ⟨T', q1, k, w1, w2, tb1, tb2, t0, t1, _, o⟩ := s1 j D h
  refine ⟨T', q1, ⟨fun _ => ?_, fun h => by omega, fun h => by omega, fun h => by omega, fun h => by omega, fun h => by omega, fun h => by omega⟩, o⟩
  rw [w1]
  exact ⟨t0, t1, tb1, tb2⟩
/-- An expression as the part m. -/
theorem srd_ex (hc : ∀ a, sz ≤ a → c a = 0) (he : r.e = 0) (h1 : a ≤ sz) (h2 : sz < a + (f + 1)) {m x : Nat} (hx : x ≤ sz) (hax : a < x) :
    (∀ j, scE c nv f x = (j, false) → ∃ T', two (rdP c sz nv N f) a m 101 (x, r) = (j, { r with T := T' }) ∧ tbE c nv T' f x ∧ T' a m = (x : Int) ∧ (∀ i, i ≠ m → T' a i = r.T a i) ∧ Out a j r.T T') ∧
    (∀ j, scE c nv f x = (j, true) → Flt j (two (rdP c sz nv N f) a m 101 (x, r))) := by
  have _ := h1
  obtain ⟨i1, i2⟩ := rdE_ok (nv := nv) (N := N) hc f x { r with T := setT r.T a m (x : Int) } he hx (by omega)
  have e0 : two (rdP c sz nv N f) a m 101 (x, r) = rdP c sz nv N f 101 x { r with T := setT r.T a m (x : Int) } := rfl
  rw [e0]
  refine ⟨fun j h => ?_, i2⟩
  obtain ⟨T', q1, tb, o⟩ := i1 j h
  replace o : Out x j (setT r.T a m (x : Int)) T' := o
  have l := scE_lt3 _ _ _ h
  refine ⟨T', q1, tb, by rw [o a m (by omega), setT_get], fun i hi => by rw [o a i (by omega), setT_ne hi], fun y i hy => ?_⟩
  rw [o y i (by omega)]
  exact (Out.set (T := r.T) (a := a) (i := m)) y i (by omega)
theorem srd_i (hc : ∀ a, sz ≤ a → c a = 0) (he : r.e = 0) (h1 : a ≤ sz) (h2 : sz < a + (f + 1)) (ih : ∀ (a : Nat) (r : RdS), r.e = 0 → a ≤ sz → sz < a + f → SRd c sz nv N f a r) (hl : c a = 105) : SRd c sz nv N (f + 1) a r := by
  obtain ⟨ha, hg⟩ := srd_go (nv := nv) (N := N) hc he h1 h2 (inn := bs [101, 115, 115]) (by omega) (by unfold stI; rw [if_neg (by omega), if_neg (by omega), if_neg (by omega), if_pos hl])
  unfold SRd
  rw [hg, rdL_3']
  have hs : scS c nv N (f + 1) a r.C = thenE (scE c nv f (a + 1)) r.C (fun j => thenS (scS c nv N f j r.C) (scS c nv N f)) := by simp only [scS]; rw [if_neg (by omega), if_neg (by omega), if_neg (by omega), if_pos hl]
  rw [hs]
  obtain ⟨x1, x2⟩ := srd_ex (N := N) (nv := nv) hc he h1 h2 (m := 0) (x := a + 1) (by omega) (by omega)
  obtain ⟨k, b, hsE⟩ : ∃ k b, scE c nv f (a + 1) = (k, b) := ⟨_, _, rfl⟩
  rw [hsE]
  cases b
  · obtain ⟨T1, q1, tb, t0, tr, o1⟩ := x1 k hsE
    have in1 := scE_in hc _ _ _ hsE
    have l1 := scE_lt3 _ _ _ hsE
    have e1 : thenE (k, false) r.C (fun j => thenS (scS c nv N f j r.C) (scS c nv N f)) = thenS (scS c nv N f k r.C) (scS c nv N f) := by unfold thenE; rw [if_neg (by simp)]
    rw [e1]
    have q1' : two (rdP c sz nv N f) a 0 ((101 : UInt8).toNat : Int) (a + 1, r) = (k, { r with T := T1 }) := q1
    rw [q1']
    obtain ⟨s1, s2⟩ := srd_two (N := N) (nv := nv) (r := { r with T := T1 }) hc he h1 h2 ih (m := 1) (x := k) in1 (by omega)
    refine ⟨fun j D h => ?_, fun j D h => s2 j D h⟩
    obtain ⟨T', p1, k2, w1, w2, tb1, tb2, t1, t2, rows, o⟩ := s1 j D h
    replace rows : ∀ y i, y < k → (y ≠ a ∨ (i ≠ 1 ∧ i ≠ 1 + 1)) → T' y i = T1 y i := rows
    refine ⟨T', p1, ⟨fun h => by omega, fun h => by omega, fun _ => ?_, fun h => by omega, fun h => by omega, fun h => by omega, fun h => by omega⟩, fun y i hy => ?_⟩
    · rw [hsE, w1]
      refine ⟨by rw [rows a 0 (by omega) (by omega)]; exact t0, t1, t2, tbE_keep _ _ _ hsE (fun y i g1 g2 => rows y i (by omega) (by omega)) tb, tb1, tb2⟩
    · rw [show T' y i = T1 y i from o y i hy]
      have w3 := wfS_lt3 _ _ _ w1
      have w4 := wfS_lt3 _ _ _ w2
      exact o1 y i (by omega)
  · have e1 : thenE (k, true) r.C (fun j => thenS (scS c nv N f j r.C) (scS c nv N f)) = (k, true, r.C) := by unfold thenE; rw [if_pos rfl]
    rw [e1]
    refine ⟨fun j D h => by simp at h, fun j D h => ?_⟩
    simp at h
    obtain ⟨rfl, rfl⟩ := h
    exact (x2 k hsE).two.two
theorem srd_w (hc : ∀ a, sz ≤ a → c a = 0) (he : r.e = 0) (h1 : a ≤ sz) (h2 : sz < a + (f + 1)) (ih : ∀ (a : Nat) (r : RdS), r.e = 0 → a ≤ sz → sz < a + f → SRd c sz nv N f a r) (hl : c a = 119) : SRd c sz nv N (f + 1) a r := by
  obtain ⟨ha, hg⟩ := srd_go (nv := nv) (N := N) hc he h1 h2 (inn := bs [101, 115]) (by omega) (by unfold stI; rw [if_neg (by omega), if_neg (by omega), if_neg (by omega), if_neg (by omega), if_pos hl])
  unfold SRd
  rw [hg, rdL_2']
  have hs : scS c nv N (f + 1) a r.C = thenE (scE c nv f (a + 1)) r.C (fun j => scS c nv N f j r.C) := by simp only [scS]; rw [if_neg (by omega), if_neg (by omega), if_neg (by omega), if_neg (by omega), if_pos hl]
  rw [hs]
  obtain ⟨x1, x2⟩ := srd_ex (N := N) (nv := nv) hc he h1 h2 (m := 0) (x := a + 1) (by omega) (by omega)
  obtain ⟨k, b, hsE⟩ : ∃ k b, scE c nv f (a + 1) = (k, b) := ⟨_, _, rfl⟩
  rw [hsE]
  cases b
  · obtain ⟨T1, q1, tb, t0, tr, o1⟩ := x1 k hsE
    have in1 := scE_in hc _ _ _ hsE
    have l1 := scE_lt3 _ _ _ hsE
    have e1 : thenE (k, false) r.C (fun j => scS c nv N f j r.C) = scS c nv N f k r.C := by unfold thenE; rw [if_neg (by simp)]
    rw [e1]
    have q1' : two (rdP c sz nv N f) a 0 ((101 : UInt8).toNat : Int) (a + 1, r) = (k, { r with T := T1 }) := q1
    rw [q1']
    have e2 : two (rdP c sz nv N f) a 1 ((115 : UInt8).toNat : Int) (k, { r with T := T1 }) = rdP c sz nv N f 115 k { r with T := setT T1 a 1 (k : Int) } := rfl
    rw [e2]
    obtain ⟨s1, s2⟩ := ih k { r with T := setT T1 a 1 (k : Int) } he in1 (by omega)
    refine ⟨fun j D h => ?_, fun j D h => s2 j D h⟩
    obtain ⟨T', p1, tb1, o⟩ := s1 j D h
    replace o : Out k j (setT T1 a 1 (k : Int)) T' := o
    have w1 := wf4_of h
    have l2 := wfS_lt3 _ _ _ w1
    have row : ∀ y i, y < k → T' y i = setT T1 a 1 (k : Int) y i := fun y i hy => o y i (by omega)
    refine ⟨T', p1, ⟨fun h => by omega, fun h => by omega, fun h => by omega, fun _ => ?_, fun h => by omega, fun h => by omega, fun h => by omega⟩, fun y i hy => ?_⟩
    · rw [hsE]
      refine ⟨by rw [row a 0 (by omega), setT_ne (by omega)]; exact t0, by rw [row a 1 (by omega), setT_get], tbE_keep _ _ _ hsE (fun y i g1 g2 => ?_) tb, tb1⟩
      rw [row y i (by omega)]
      exact (Out.set (T := T1) (a := a) (i := 1) (x := (k : Int))) y i (by omega)
    · rw [o y i (by omega), (Out.set (T := T1) (a := a) (i := 1) (x := (k : Int))) y i (by omega)]
      exact o1 y i (by omega)
  · have e1 : thenE (k, true) r.C (fun j => scS c nv N f j r.C) = (k, true, r.C) := by unfold thenE; rw [if_pos rfl]
    rw [e1]
    refine ⟨fun j D h => by simp at h, fun j D h => ?_⟩
    simp at h
    obtain ⟨rfl, rfl⟩ := h
    exact (x2 k hsE).two
/-- A byte as the part 0, an expression as the part 1. -/
theorem srd_be (hc : ∀ a, sz ≤ a → c a = 0) (he : r.e = 0) (h1 : a ≤ sz) (h2 : sz < a + (f + 1)) {k : Int} {b : Bool} (hp : ptI nv N k (c (a + 1)) = yesI b) (hk : k ≠ 112) (hin : b = true → a + 1 < sz) (ha : a < sz) :
    (∀ j, b = true → scE c nv f (a + 2) = (j, false) → ∃ T', two (rdP c sz nv N f) a 1 101 (two (rdP c sz nv N f) a 0 k (a + 1, r)) = (j, { r with T := T' }) ∧ T' a 0 = ((a + 1 : Nat) : Int) ∧ T' a 1 = ((a + 2 : Nat) : Int) ∧ tbE c nv T' f (a + 2) ∧ Out a j r.T T') ∧
    (∀ j, b = true → scE c nv f (a + 2) = (j, true) → Flt j (two (rdP c sz nv N f) a 1 101 (two (rdP c sz nv N f) a 0 k (a + 1, r)))) ∧
    (b = false → Flt (a + 1) (two (rdP c sz nv N f) a 1 101 (two (rdP c sz nv N f) a 0 k (a + 1, r)))) := by
  have e0 : two (rdP c sz nv N f) a 0 k (a + 1, r) = rdP c sz nv N f k (a + 1) { r with T := setT r.T a 0 ((a + 1 : Nat) : Int) } := rfl
  have e1 := rd_one (c := c) (sz := sz) (f := f) (r := { r with T := setT r.T a 0 ((a + 1 : Nat) : Int) }) he (by omega) hp hk hin
  rw [e0, e1]
  cases b
  · rw [if_neg (by simp)]
    refine ⟨fun _ h => (by cases h), fun _ h => (by cases h), fun _ => ?_⟩
    exact (refR_flt (a := a + 1) (r := { r with T := setT r.T a 0 ((a + 1 : Nat) : Int) }) he).two
  · rw [if_pos rfl]
    have hi := hin rfl
    obtain ⟨x1, x2⟩ := srd_ex (N := N) (nv := nv) (r := { r with T := setT r.T a 0 ((a + 1 : Nat) : Int) }) hc he h1 h2 (m := 1) (x := a + 2) (by omega) (by omega)
    refine ⟨fun j _ h => ?_, fun j _ h => x2 j h, fun h => (by cases h)⟩
    obtain ⟨T1, q1, tb, t0, tr, o1⟩ := x1 j h
    refine ⟨T1, q1, (tr 0 (by omega)).trans setT_get, t0, tb, fun y i hy => ?_⟩
    rw [show T1 y i = setT r.T a 0 ((a + 1 : Nat) : Int) y i from o1 y i hy]
    have l := scE_lt3 _ _ _ h
    exact (Out.set (T := r.T) (a := a) (i := 0)) y i (by omega)
theorem srd_eq (hc : ∀ a, sz ≤ a → c a = 0) (he : r.e = 0) (h1 : a ≤ sz) (h2 : sz < a + (f + 1)) (hl : c a = 61) : SRd c sz nv N (f + 1) a r := by
  obtain ⟨ha, hg⟩ := srd_go (nv := nv) (N := N) hc he h1 h2 (inn := bs [118, 101]) (by omega) (by unfold stI; rw [if_neg (by omega), if_neg (by omega), if_pos hl])
  unfold SRd
  rw [hg, rdL_2']
  have hs : scS c nv N (f + 1) a r.C = if isVar nv (c (a + 1)) = true then thenE (scE c nv f (a + 2)) r.C (fun j => (j, false, r.C)) else (a + 1, true, r.C) := by simp only [scS]; rw [if_neg (by omega), if_neg (by omega), if_pos hl]
  rw [hs]
  obtain ⟨x1, x2, x3⟩ := srd_be (N := N) (nv := nv) (k := 118) (b := isVar nv (c (a + 1))) hc he h1 h2 rfl (by omega) (fun h => isVar_in hc h) ha
  cases hb : isVar nv (c (a + 1))
  · rw [if_neg (by simp)]
    refine ⟨fun j D h => by simp at h, fun j D h => ?_⟩
    simp at h
    obtain ⟨rfl, rfl⟩ := h
    exact x3 hb
  · rw [if_pos rfl]
    obtain ⟨k, b, hsE⟩ : ∃ k b, scE c nv f (a + 2) = (k, b) := ⟨_, _, rfl⟩
    rw [hsE]
    cases b
    · have e1 : thenE (k, false) r.C (fun j => (j, false, r.C)) = (k, false, r.C) := by unfold thenE; rw [if_neg (by simp)]
      rw [e1]
      refine ⟨fun j D h => ?_, fun j D h => by simp at h⟩
      simp at h
      obtain ⟨rfl, rfl⟩ := h
      obtain ⟨T', q, t0, t1, tb, o⟩ := x1 k hb hsE
      exact ⟨T', q, ⟨fun h => by omega, fun _ => ⟨t0, t1, tb⟩, fun h => by omega, fun h => by omega, fun h => by omega, fun h => by omega, fun h => by omega⟩, o⟩
    · have e1 : thenE (k, true) r.C (fun j => (j, false, r.C)) = (k, true, r.C) := by unfold thenE; rw [if_pos rfl]
      rw [e1]
      refine ⟨fun j D h => by simp at h, fun j D h => ?_⟩
      simp at h
      obtain ⟨rfl, rfl⟩ := h
      exact x2 k hb hsE
theorem srd_o (hc : ∀ a, sz ≤ a → c a = 0) (he : r.e = 0) (h1 : a ≤ sz) (h2 : sz < a + (f + 1)) (hl : c a = 111) : SRd c sz nv N (f + 1) a r := by
  obtain ⟨ha, hg⟩ := srd_go (nv := nv) (N := N) hc he h1 h2 (inn := bs [108, 101]) (by omega) (by unfold stI; rw [if_neg (by omega), if_neg (by omega), if_neg (by omega), if_neg (by omega), if_neg (by omega), if_neg (by omega), if_pos hl])
  unfold SRd
  rw [hg, rdL_2']
  have hs : scS c nv N (f + 1) a r.C = if isDB (c (a + 1)) N = true then thenE (scE c nv f (a + 2)) r.C (fun j => (j, false, r.C)) else (a + 1, true, r.C) := by simp only [scS]; rw [if_neg (by omega), if_neg (by omega), if_neg (by omega), if_neg (by omega), if_neg (by omega), if_neg (by omega), if_pos hl]
  rw [hs]
  obtain ⟨x1, x2, x3⟩ := srd_be (N := N) (nv := nv) (k := 108) (b := isDB (c (a + 1)) N) hc he h1 h2 rfl (by omega) (fun h => isDB_in hc h) ha
  cases hb : isDB (c (a + 1)) N
  · rw [if_neg (by simp)]
    refine ⟨fun j D h => by simp at h, fun j D h => ?_⟩
    simp at h
    obtain ⟨rfl, rfl⟩ := h
    exact x3 hb
  · rw [if_pos rfl]
    obtain ⟨k, b, hsE⟩ : ∃ k b, scE c nv f (a + 2) = (k, b) := ⟨_, _, rfl⟩
    rw [hsE]
    cases b
    · have e1 : thenE (k, false) r.C (fun j => (j, false, r.C)) = (k, false, r.C) := by unfold thenE; rw [if_neg (by simp)]
      rw [e1]
      refine ⟨fun j D h => ?_, fun j D h => by simp at h⟩
      simp at h
      obtain ⟨rfl, rfl⟩ := h
      obtain ⟨T', q, t0, t1, tb, o⟩ := x1 k hb hsE
      exact ⟨T', q, ⟨fun h => by omega, fun h => by omega, fun h => by omega, fun h => by omega, fun h => by omega, fun _ => ⟨t0, t1, tb⟩, fun h => by omega⟩, o⟩
    · have e1 : thenE (k, true) r.C (fun j => (j, false, r.C)) = (k, true, r.C) := by unfold thenE; rw [if_pos rfl]
      rw [e1]
      refine ⟨fun j D h => by simp at h, fun j D h => ?_⟩
      simp at h
      obtain ⟨rfl, rfl⟩ := h
      exact x2 k hb hsE
theorem srd_r (hc : ∀ a, sz ≤ a → c a = 0) (he : r.e = 0) (h1 : a ≤ sz) (h2 : sz < a + (f + 1)) (hl : c a = 114) : SRd c sz nv N (f + 1) a r := by
  obtain ⟨ha, hg⟩ := srd_go (nv := nv) (N := N) hc he h1 h2 (inn := bs [108, 118]) (by omega) (by unfold stI; rw [if_neg (by omega), if_neg (by omega), if_neg (by omega), if_neg (by omega), if_neg (by omega), if_pos hl])
  unfold SRd
  rw [hg, rdL_2']
  have hs : scS c nv N (f + 1) a r.C = if isDB (c (a + 1)) N = true then (if isVar nv (c (a + 2)) = true then (a + 3, false, r.C) else (a + 2, true, r.C)) else (a + 1, true, r.C) := by simp only [scS]; rw [if_neg (by omega), if_neg (by omega), if_neg (by omega), if_neg (by omega), if_neg (by omega), if_pos hl]
  rw [hs]
  have e0 : two (rdP c sz nv N f) a 0 ((108 : UInt8).toNat : Int) (a + 1, r) = rdP c sz nv N f 108 (a + 1) { r with T := setT r.T a 0 ((a + 1 : Nat) : Int) } := rfl
  have e1 := rd_one (c := c) (sz := sz) (f := f) (nv := nv) (N := N) (k := 108) (b := isDB (c (a + 1)) N) (a := a + 1) (r := { r with T := setT r.T a 0 ((a + 1 : Nat) : Int) }) he (by omega) rfl (by omega) (fun h => isDB_in hc h)
  rw [e0, e1]
  cases hb : isDB (c (a + 1)) N
  · rw [if_neg (by simp), if_neg (by simp)]
    refine ⟨fun j D h => by simp at h, fun j D h => ?_⟩
    simp at h
    obtain ⟨rfl, rfl⟩ := h
    exact (refR_flt (a := a + 1) (r := { r with T := setT r.T a 0 ((a + 1 : Nat) : Int) }) he).two
  · rw [if_pos rfl, if_pos rfl]
    have hi := isDB_in hc hb
    have e2 : two (rdP c sz nv N f) a 1 ((118 : UInt8).toNat : Int) (a + 1 + 1, { r with T := setT r.T a 0 ((a + 1 : Nat) : Int) }) = rdP c sz nv N f 118 (a + 2) { r with T := setT (setT r.T a 0 ((a + 1 : Nat) : Int)) a 1 ((a + 2 : Nat) : Int) } := rfl
    have e3 := rd_one (c := c) (sz := sz) (f := f) (nv := nv) (N := N) (k := 118) (b := isVar nv (c (a + 2))) (a := a + 2) (r := { r with T := setT (setT r.T a 0 ((a + 1 : Nat) : Int)) a 1 ((a + 2 : Nat) : Int) }) he (by omega) rfl (by omega) (fun h => isVar_in hc h)
    rw [e2, e3]
    cases hv : isVar nv (c (a + 2))
    · rw [if_neg (by simp), if_neg (by simp)]
      refine ⟨fun j D h => by simp at h, fun j D h => ?_⟩
      simp at h
      obtain ⟨rfl, rfl⟩ := h
      exact refR_flt (a := a + 2) (r := { r with T := setT (setT r.T a 0 ((a + 1 : Nat) : Int)) a 1 ((a + 2 : Nat) : Int) }) he
    · rw [if_pos rfl, if_pos rfl]
      refine ⟨fun j D h => ?_, fun j D h => by simp at h⟩
      simp at h
      obtain ⟨rfl, rfl⟩ := h
      refine ⟨_, rfl, ⟨fun h => by omega, fun h => by omega, fun h => by omega, fun h => by omega, fun _ => ⟨(setT_ne (by omega)).trans setT_get, setT_get⟩, fun h => by omega, fun h => by omega⟩, fun y i hy => ?_⟩
      show setT (setT r.T a 0 ((a + 1 : Nat) : Int)) a 1 ((a + 2 : Nat) : Int) y i = r.T y i
      unfold setT; rw [if_neg (by omega), if_neg (by omega)]
theorem srd_c (hc : ∀ a, sz ≤ a → c a = 0) (he : r.e = 0) (h1 : a ≤ sz) (h2 : sz < a + (f + 1)) (hl : c a = 99) : SRd c sz nv N (f + 1) a r := by
  obtain ⟨ha, hg⟩ := srd_go (nv := nv) (N := N) hc he h1 h2 (inn := bs [112]) (by omega) (by unfold stI; rw [if_neg (by omega), if_neg (by omega), if_neg (by omega), if_neg (by omega), if_neg (by omega), if_neg (by omega), if_neg (by omega), if_pos hl])
  unfold SRd
  rw [hg, rdL_1']
  have hs : scS c nv N (f + 1) a r.C = if isDB (c (a + 1)) 4 = true then (a + 2, false, r.C ++ [a + 1]) else (a + 1, true, r.C ++ [a + 1]) := by simp only [scS]; rw [if_neg (by omega), if_neg (by omega), if_neg (by omega), if_neg (by omega), if_neg (by omega), if_neg (by omega), if_neg (by omega), if_pos hl]
  rw [hs]
  have e0 : two (rdP c sz nv N f) a 0 ((112 : UInt8).toNat : Int) (a + 1, r) = rdP c sz nv N f 112 (a + 1) { r with T := setT r.T a 0 ((a + 1 : Nat) : Int) } := rfl
  have e1 := rd_call (c := c) (sz := sz) (f := f) (nv := nv) (N := N) (b := isDB (c (a + 1)) 4) (a := a + 1) (r := { r with T := setT r.T a 0 ((a + 1 : Nat) : Int) }) he (by omega) rfl (fun h => isDB_in hc h)
  rw [e0, e1]
  cases hb : isDB (c (a + 1)) 4
  · rw [if_neg (by simp), if_neg (by simp)]
    refine ⟨fun j D h => by simp at h, fun j D h => ?_⟩
    simp at h
    obtain ⟨rfl, rfl⟩ := h
    exact refR_flt (a := a + 1) (r := { r with T := setT r.T a 0 ((a + 1 : Nat) : Int) }) he
  · rw [if_pos rfl, if_pos rfl]
    refine ⟨fun j D h => ?_, fun j D h => by simp at h⟩
    simp at h
    obtain ⟨rfl, rfl⟩ := h
    refine ⟨_, rfl, ⟨fun h => by omega, fun h => by omega, fun h => by omega, fun h => by omega, fun h => by omega, fun h => by omega, fun _ => setT_get⟩, fun y i hy => ?_⟩
    show setT r.T a 0 ((a + 1 : Nat) : Int) y i = r.T y i
    unfold setT; rw [if_neg (by omega)]
theorem srd_none (hc : ∀ a, sz ≤ a → c a = 0) (he : r.e = 0) (h1 : a ≤ sz) (h2 : sz < a + (f + 1)) (hl : ¬ (c a = 46 ∨ c a = 120 ∨ c a = 44 ∨ c a = 116 ∨ c a = 61 ∨ c a = 105 ∨ c a = 119 ∨ c a = 114 ∨ c a = 111 ∨ c a = 99)) : SRd c sz nv N (f + 1) a r := by
  have _ := hc
  have _ := h1
  have _ := h2
  have hs : scS c nv N (f + 1) a r.C = (a, true, r.C) := by
    simp only [scS]
    rw [if_neg (by omega), if_neg (by omega), if_neg (by omega), if_neg (by omega), if_neg (by omega), if_neg (by omega), if_neg (by omega), if_neg (by omega)]
  have hp : ptI nv N 115 (c a) = none := by
    show stI (c a) = none
    unfold stI
    rw [if_neg (by omega), if_neg (by omega), if_neg (by omega), if_neg (by omega), if_neg (by omega), if_neg (by omega), if_neg (by omega), if_neg (by omega)]
  unfold SRd
  rw [hs]
  refine ⟨fun j D h => by simp at h, fun j D h => ?_⟩
  simp at h
  obtain ⟨rfl, rfl⟩ := h
  by_cases ha : a < sz
  · rw [rdP_bad he ha hp]; exact refR_flt he
  · rw [rdP_end he ha]; exact refR_flt he
end letters

theorem rdS_ok (hc : ∀ a, sz ≤ a → c a = 0) : ∀ (f a : Nat) (r : RdS), r.e = 0 → a ≤ sz → sz < a + f → SRd c sz nv N f a r := by
  intro f
  induction f with
  | zero => intro a r _ h1 h2; omega
  | succ f ih =>
    intro a r he h1 h2
    by_cases hl : c a = 46 ∨ c a = 120 ∨ c a = 44 ∨ c a = 116 ∨ c a = 61 ∨ c a = 105 ∨ c a = 119 ∨ c a = 114 ∨ c a = 111 ∨ c a = 99
    · rcases hl with hl | hl | hl | hl | hl | hl | hl | hl | hl | hl
      · exact srd_plain hc he h1 h2 (Or.inl hl)
      · exact srd_plain hc he h1 h2 (Or.inr hl)
      · exact srd_seq hc he h1 h2 ih (Or.inl hl)
      · exact srd_seq hc he h1 h2 ih (Or.inr hl)
      · exact srd_eq hc he h1 h2 hl
      · exact srd_i hc he h1 h2 ih hl
      · exact srd_w hc he h1 h2 ih hl
      · exact srd_r hc he h1 h2 hl
      · exact srd_o hc he h1 h2 hl
      · exact srd_c hc he h1 h2 hl
    · exact srd_none hc he h1 h2 hl
end

end Go.Proofs.Ytfcflnnleadpkab

namespace Go.Proofs.Ytfcflnnleadpkab
open Go.RowKit
variable {B : Nat} {w w' w'' : World} {b : Nat} {s : ByteArray} {N nv np : Nat} {S : Nat → Int} {r r' : RdS} {v v' : Value}

set_option maxHeartbeats 1000000 in
set_option maxRecDepth 100000 in
theorem vars_ok (h : PR B w b s N 0 np S r v) :
    Calls Try.prog 44 #[.pointer (some ⟨b, 0, none⟩)] w fun e w' => e = .returned (.tuple #[]) ∧ PR B w' b s N (nvOf (bt s) N) np S r v ∧ Kp b v.ownBlock w w' := by
  have HH := hide h
  clear h
  go_enter Try.func44, Try.ntmps44
  go_wp2_with fail
  go_loopg [] 8 (fun g wr => ∃ k q : Nat, q = g ∧ k + q = 8 ∧ nvOf (bt s) N = cntV (bt s) N (8 - k) k ∧ PR B wr b s N k np S r v ∧ Kp b v.ownBlock w wr)
  case atStart => exact ⟨0, 8, rfl, rfl, rfl, unhide HH, Kp.refl _ _ _⟩
  case round =>
    obtain ⟨k, q, hq, hkq, hn, hp, hkp⟩ := hrel
    have HQ := hide (And.intro hq hkq)
    have HN := hide hn
    have HP := hide hp
    have HK := hide hkp
    have c2 := hp.c2
    have c3 := hp.c3
    have c4 := hp.c4
    have z4 := hp.fz 4
    have hk8 : k ≤ 8 := by omega
    clear hq hkq hn hp hkp
    by_cases hs : k < s.size
    · have hs' : (k : Int) < (s.size : Int) := by omega
      by_cases h8 : k < 8
      · have hbq := bt_eq s k hs
        have ⟨hb0, hb1⟩ := bt_bd s k
        have HY := hide (fun h => cntV_yes (c := bt s) (N := N) h8 h)
        have HNo := hide (fun h => cntV_no (c := bt s) (N := N) h8 h)
        have HVB := hide (show vb N (bt s k) = (bt s k == 63 || isDB (bt s k) N) from rfl)
        have HP4 := hide (fun q : Nat => ((unhide HP).drewN q).put4 (k + 1))
        have HKD := hide (fun q : Nat => (unhide HK).trans (show Kp b v.ownBlock wr (wr.drewN q) from ⟨rfl, rfl, rfl, Nat.le_refl _, fun _ _ _ _ => rfl⟩) (Or.inl rfl))
        have h8' : (k : Int) < 8 := by omega
        generalize bt s k = cc at *
        by_cases h63 : cc = 63
        · subst h63
          go_wp2_with fail
          go_quiet (fail)
          go_wp2_with fail
          go_quiet (fail)
          go_wp2_with fail
          go_roundg (q - 1)
          case measure => have := unhide HQ; omega
          case rel =>
            have hq := unhide HQ
            refine ⟨k + 1, q - 1, rfl, by omega, by rw [unhide HN]; exact unhide HY (by rw [unhide HVB]; rfl), ?_, ?_⟩
            · exact (unhide HP4 _).1
            · exact (unhide HKD _).trans (unhide HP4 _).2 (Or.inl rfl)
        · have h63' : (cc != 63) = true := by simpa using h63
          cases hd : isDB cc N
          · go_wp2_with fail
            go_quiet (fail)
            go_wp2_with fail
            go_quiet (fail)
            go_wp2_with fail
            refine (isDigit_any _ _ _ hb0 hb1).mono ?_
            rintro e w' ⟨rfl, rfl⟩
            rw [hd]
            go_wp2_with fail
            refine bodyPost_ret (v := .tuple #[]) (results_none Try.results44 _ _ _) rfl ⟨rfl, ?_, unhide HKD _⟩
            have e9 : nvOf (bt s) N = k := by
              rw [unhide HN]
              exact unhide HNo (by rw [unhide HVB, hd]; simpa using h63)
            rw [e9]
            exact (unhide HP).drewN _
          · go_wp2_with fail
            go_quiet (fail)
            go_wp2_with fail
            go_quiet (fail)
            go_wp2_with fail
            refine (isDigit_any _ _ _ hb0 hb1).mono ?_
            rintro e w' ⟨rfl, rfl⟩
            rw [hd]
            go_wp2_with fail
            go_roundg (q - 1)
            case measure => have := unhide HQ; omega
            case rel =>
              have hq := unhide HQ
              refine ⟨k + 1, q - 1, rfl, by omega, by rw [unhide HN]; exact unhide HY (by rw [unhide HVB, hd, Bool.or_true]), ?_, ?_⟩
              · exact (unhide HP4 _).1
              · exact (unhide HKD _).trans (unhide HP4 _).2 (Or.inl rfl)
      · have e9 : nvOf (bt s) N = k := by rw [unhide HN]; exact cntV_end (by omega)
        have HE := hide e9
        have HKD := hide (fun q : Nat => (unhide HK).trans (show Kp b v.ownBlock wr (wr.drewN q) from ⟨rfl, rfl, rfl, Nat.le_refl _, fun _ _ _ _ => rfl⟩) (Or.inl rfl))
        have h8' : decide ((k : Int) < 8) = false := by simp; omega
        clear e9
        go_wp2_with fail
        go_quiet (fail)
        go_wp2_with fail
        go_end0
        exact ⟨rfl, by rw [unhide HE]; exact (unhide HP).drewN _, unhide HKD _⟩
    · have hz : bt s k = 0 := by unfold bt; rw [dif_neg hs]
      have e9 : nvOf (bt s) N = k := by
        rw [unhide HN]
        by_cases h8 : k < 8
        · refine cntV_no h8 ?_
          rw [hz]
          show ((0 : Int) == 63 || isDB 0 N) = false
          rw [isDB_no (by omega)]; rfl
        · exact cntV_end (by omega)
      have HE := hide e9
      have HKD := hide (fun q : Nat => (unhide HK).trans (show Kp b v.ownBlock wr (wr.drewN q) from ⟨rfl, rfl, rfl, Nat.le_refl _, fun _ _ _ _ => rfl⟩) (Or.inl rfl))
      have hs' : decide ((k : Int) < (s.size : Int)) = false := by simp; omega
      clear e9 hz
      go_wp2_with fail
      go_quiet (fail)
      go_wp2_with fail
      go_end0
      exact ⟨rfl, by rw [unhide HE]; exact (unhide HP).drewN _, unhide HKD _⟩

end Go.Proofs.Ytfcflnnleadpkab

namespace Go.Proofs.Ytfcflnnleadpkab
open Go.RowKit
variable {B : Nat} {w w' w'' : World} {b : Nat} {s : ByteArray} {N nv np : Nat} {S : Nat → Int} {r r' : RdS} {v v' : Value}

/-- The procedures. -/
def rdG (s : ByteArray) (nv N : Nat) : Nat → Nat → Nat → (Nat → Int) → RdS → Nat × (Nat → Int) × RdS
  | 0, _, np, S, r => (np, S, r)
  | g + 1, a, np, S, r =>
    if r.e = 0 ∧ a < s.size then
      (if 4 ≤ np then (np, S, refR r a)
       else rdG s nv N g (rdP (bt s) s.size nv N (s.size + 1) 115 (a + 1) (mkR s 59 a r)).1 (np + 1) (setS S (np + 1) ((a + 1 : Nat) : Int)) (rdP (bt s) s.size nv N (s.size + 1) 115 (a + 1) (mkR s 59 a r)).2)
    else (np, S, r)
/-- The whole text behind its variables. -/
def rdAll (s : ByteArray) (nv N : Nat) (S : Nat → Int) (r : RdS) : Nat × (Nat → Int) × RdS :=
  rdG s nv N 5 (rdP (bt s) s.size nv N (s.size + 1) 115 (nv + 1) (mkR s 58 nv r)).1 0 (setS S 0 ((nv + 1 : Nat) : Int)) (rdP (bt s) s.size nv N (s.size + 1) 115 (nv + 1) (mkR s 58 nv r)).2
theorem mkR_C {m : Int} {a : Nat} : (mkR s m a r).C = r.C := by unfold mkR; split; rfl; exact refR_C
theorem mkR_far {m : Int} {a : Nat} (h : ¬ a < s.size) : (mkR s m a r).e ≠ 0 := by
  unfold mkR refR
  rw [if_neg (fun x => h x.1)]
  split
  · show (4 : Int) ≠ 0; omega
  · assumption

/-- A statement behind a mark, wherever that is. -/
theorem part_any (hs : s.size ≤ 300) (h : PR B w b s N nv np S r v) {x : Int} {a : Nat} (hx : x = (a : Int)) (hB : B ≤ w.heap.size) (h1 : a ≤ s.size ∨ r.e ≠ 0) (h3 : r.C.length ≤ a) :
    Calls Try.prog 76 #[.pointer (some ⟨b, 0, none⟩), .int .u8 115, .int .i64 x] w fun e w' => e = .returned (.int .i64 ((rdP (bt s) s.size nv N (s.size + 1) 115 a r).1 : Nat)) ∧ PSt B w b s N nv np S v (rdP (bt s) s.size nv N (s.size + 1) 115 a r).2 w' := by
  subst hx
  by_cases he : r.e = 0
  · rcases h1 with h1 | h1
    · exact rdPart hs (s.size + 1) w r v 115 a h (Or.inl rfl) hB h1 (by omega) h3
    · exact absurd he h1
  · rw [rdP_stuck he]
    refine (part_flt h 115 _ he).mono ?_
    rintro e w' ⟨rfl, rfl⟩
    exact ⟨rfl, v, h, Kp.refl _ _ _, Or.inl rfl⟩
theorem part_after {a : Nat} (h1 : a ≤ s.size ∨ r.e ≠ 0) (h3 : r.C.length ≤ a) : ((rdP (bt s) s.size nv N (s.size + 1) 115 a r).1 ≤ s.size ∨ (rdP (bt s) s.size nv N (s.size + 1) 115 a r).2.e ≠ 0) ∧ (rdP (bt s) s.size nv N (s.size + 1) 115 a r).2.C.length ≤ (rdP (bt s) s.size nv N (s.size + 1) 115 a r).1 ∧ a ≤ (rdP (bt s) s.size nv N (s.size + 1) 115 a r).1 := by
  by_cases he : r.e = 0
  · rcases h1 with h1 | h1
    · have := rdP_pos (c := bt s) (sz := s.size) (nv := nv) (N := N) (s.size + 1) 115 a r h1 h3
      exact ⟨Or.inl this.2.1, this.2.2, this.1⟩
    · exact absurd he h1
  · rw [rdP_stuck he]; exact ⟨Or.inr he, h3, Nat.le_refl _⟩

/-- Between two procedures. -/
structure LG (B : Nat) (w : World) (b : Nat) (s : ByteArray) (N nv : Nat) (v : Value) (R : Nat × (Nat → Int) × RdS) (g a : Nat) (wr : World) : Prop where
  ex : ∃ (np : Nat) (S : Nat → Int) (r : RdS) (v' : Value), np + g = 5 ∧ np ≤ 4 ∧ PR B wr b s N nv np S r v' ∧ Kp b v.ownBlock w wr ∧ NewOr w v v' ∧ (a ≤ s.size ∨ r.e ≠ 0) ∧ r.C.length ≤ a ∧ a ≤ 302 ∧ R = rdG s nv N g a np S r

set_option maxHeartbeats 2000000 in
set_option maxRecDepth 100000 in
theorem stmts_ok (hs : s.size ≤ 300) (hnv : nv ≤ s.size) (h : PR B w b s N nv 0 S r v) (hB : B ≤ w.heap.size) (hC : r.C.length ≤ nv) :
    Calls Try.prog 45 #[.pointer (some ⟨b, 0, none⟩)] w fun e w' => e = .returned (.tuple #[]) ∧ ∃ v', PR B w' b s N nv (rdAll s nv N S r).1 (rdAll s nv N S r).2.1 (rdAll s nv N S r).2.2 v' ∧ Kp b v.ownBlock w w' ∧ NewOr w v v' := by
  have HR := hide (show rdAll s nv N S r = rdG s nv N 5 (rdP (bt s) s.size nv N (s.size + 1) 115 (nv + 1) (mkR s 58 nv r)).1 0 (setS S 0 ((nv + 1 : Nat) : Int)) (rdP (bt s) s.size nv N (s.size + 1) 115 (nv + 1) (mkR s 58 nv r)).2 from rfl)
  generalize rdAll s nv N S r = RR at *
  have c4 := h.c4
  have HH := hide h
  clear h
  have HX := hide (show nv + 1 ≤ s.size ∨ (mkR s 58 nv r).e ≠ 0 by
    by_cases e : nv < s.size
    · exact Or.inl e
    · exact Or.inr (mkR_far e))
  have HC1 := hide (show (mkR s 58 nv r).C.length ≤ nv + 1 by rw [mkR_C]; omega)
  go_enter Try.func45, Try.ntmps45
  go_wp2_with fail
  refine (mark_any (unhide HH) 58 rfl (by omega)).mono ?_
  rintro e w1 ⟨rfl, hp1, hk1⟩
  have c6 := hp1.cS (k := 0) (by omega)
  simp only [Nat.add_zero] at c6
  have z6 := hp1.fz 6
  have HP1 := hide (hp1.putS (k := 0) (by omega) ((nv + 1 : Nat) : Int) 0)
  have HK1 := hide hk1
  clear hp1 hk1 c4
  have hB1 : B ≤ (w1.setCell ⟨b, 6, none⟩ (.int .i64 ((nv : Int) + 1))).heap.size := by rw [World.size_setCell]; have := (unhide HK1).size; omega
  go_wp2_with fail
  refine (part_any hs (unhide HP1).1 (a := nv + 1) (by omega) hB1 (unhide HX) (unhide HC1)).mono ?_
  rintro e w2 ⟨rfl, v2, hp2, hk2, hn2⟩
  have HL := hide (show LG B w b s N nv v RR 5 (rdP (bt s) s.size nv N (s.size + 1) 115 (nv + 1) (mkR s 58 nv r)).1 w2 by
    obtain ⟨a1, a2, a3⟩ := part_after (N := N) (nv := nv) (unhide HX) (unhide HC1)
    have hst := PSt.step (unhide HK1) (Or.inl rfl) (PSt.step (unhide HP1).2 (Or.inl rfl) ⟨v2, hp2, hk2, hn2⟩)
    obtain ⟨v3, p3, k3, n3⟩ := hst
    refine ⟨0, _, _, v3, rfl, by omega, p3, k3, n3, a1, a2, ?_, unhide HR⟩
    by_cases he : (mkR s 58 nv r).e = 0
    · rcases a1 with a1 | a1
      · omega
      · have h9 := rdP_pos (c := bt s) (sz := s.size) (nv := nv) (N := N) (s.size + 1) 115 (nv + 1) (mkR s 58 nv r) (by
          rcases unhide HX with h | h
          · exact h
          · exact absurd he h) (unhide HC1)
        omega
    · rw [rdP_stuck he]; show nv + 1 ≤ 302; omega)
  clear hp2 hk2 hn2 HR HX HC1 HP1 HK1 c6 z6
  generalize (rdP (bt s) s.size nv N (s.size + 1) 115 (nv + 1) (mkR s 58 nv r)).1 = a0 at *
  go_wp2_with fail
  go_loopg [2] 5 (fun g d wr => ∃ a q : Nat, q = g ∧ d = .int .i64 (a : Int) ∧ LG B w b s N nv v RR q a wr)
  case atStart => exact ⟨a0, 5, rfl, rfl, unhide HL⟩
  case round =>
    obtain ⟨a, q, hq, rfl, ⟨np, T, r1, v1, hnp, hnp4, hp, hkp, hno, ha1, hC1, ha2, hR⟩⟩ := hrel
    obtain ⟨q1, rfl⟩ : ∃ q1, q = q1 + 1 := ⟨q - 1, by omega⟩
    have HQ := hide hq
    have HNP := hide hnp
    have HP := hide hp
    have HK := hide hkp
    have HNO := hide hno
    have HR := hide hR
    have k0 := hp.c0
    have k2 := hp.c2
    have k5 := hp.c5
    have z5 := hp.fz 5
    clear hq hkp hno hR hnp
    by_cases he : r1.e = 0
    · rw [he] at k0
      by_cases hlt : a < s.size
      · have hlt' : (a : Int) < (s.size : Int) := by omega
        by_cases h4 : 4 ≤ np
        · have h4' : (4 : Int) ≤ (np : Int) := by omega
          have HE := hide (show RR = (np, T, refR r1 a) by
            rw [unhide HR]
            simp only [rdG]
            rw [if_pos ⟨he, hlt⟩, if_pos h4])
          clear hp
          go_wp2_with fail
          refine (refuse_any (unhide HP) a).mono ?_
          rintro e w2 ⟨rfl, hp2, hk2⟩
          have HP2 := hide hp2
          have HK2 := hide ((unhide HK).trans hk2 (unhide HNO))
          clear hp2 hk2
          go_wp2_with fail
          refine bodyPost_ret (v := .tuple #[]) (results_none Try.results45 _ _ _) rfl ⟨rfl, v1, ?_, unhide HK2, unhide HNO⟩
          rw [unhide HE]; exact unhide HP2
        · have h4' : decide ((4 : Int) ≤ (np : Int)) = false := by simp; omega
          have HE := hide (show RR = rdG s nv N q1 (rdP (bt s) s.size nv N (s.size + 1) 115 (a + 1) (mkR s 59 a r1)).1 (np + 1) (setS T (np + 1) ((a + 1 : Nat) : Int)) (rdP (bt s) s.size nv N (s.size + 1) 115 (a + 1) (mkR s 59 a r1)).2 by
            rw [unhide HR]
            simp only [rdG]
            rw [if_pos ⟨he, hlt⟩, if_neg h4])
          clear hp
          go_wp2_with fail
          refine (mark_any (unhide HP) 59 rfl (by omega)).mono ?_
          rintro e w2 ⟨rfl, hp2, hk2⟩
          have HP2 := hide hp2
          have HK2 := hide ((unhide HK).trans hk2 (unhide HNO))
          have hp3 := hp2.put5 (np + 1)
          have c5 := hp2.c5
          have y5 := hp2.fz 5
          clear hk2 k0 k2 k5 z5
          have hn5 : (np : Int) + 1 < 5 := by omega
          have HP3 := hide hp3
          clear hp2 hp3
          go_wp2_with fail
          clear c5 y5
          generalize hW : w2.setCell ⟨b, 5, none⟩ (.int .i64 ((np : Int) + 1)) = w3 at *
          have hp3 : PR B w3 b s N nv (np + 1) T (mkR s 59 a r1) v1 ∧ Kp b v1.ownBlock w2 w3 := by rw [← hW]; exact unhide HP3
          clear hW HP3
          have c5 : w3.cell? ⟨b, 5, none⟩ = some (.int .i64 ((np : Int) + 1)) := hp3.1.c5
          have cS := hp3.1.cS (k := np + 1) (by omega)
          have zS := hp3.1.fz (6 + (np + 1))
          have HP4 := hide (fun q : Nat => hp3.1.putS (k := np + 1) (by omega) ((a + 1 : Nat) : Int) q)
          have HK3 := hide ((unhide HK2).trans hp3.2 (unhide HNO))
          have hsz := (unhide HK3).size
          clear hp3
          have HX := hide (show a + 1 ≤ s.size ∨ (mkR s 59 a r1).e ≠ 0 from Or.inl hlt)
          have HC1 := hide (show (mkR s 59 a r1).C.length ≤ a + 1 by rw [mkR_C]; omega)
          go_region
          all_goals
            go_wp2_with fail
            refine (part_any hs (unhide HP4 1).1 (a := a + 1) (by omega) (by show B ≤ (w3.setCell _ _).heap.size; rw [World.size_setCell]; omega) (unhide HX) (unhide HC1)).mono ?_
            rintro e w4 ⟨rfl, v4, hp4, hk4, hn4⟩
            have HL := hide (show LG B w b s N nv v RR q1 (rdP (bt s) s.size nv N (s.size + 1) 115 (a + 1) (mkR s 59 a r1)).1 w4 by
              obtain ⟨a1, a2, a3⟩ := part_after (N := N) (nv := nv) (unhide HX) (unhide HC1)
              obtain ⟨v3, p3, k3, n3⟩ := PSt.step (unhide HK3) (unhide HNO) (PSt.step (unhide HP4 1).2 (Or.inl rfl) ⟨v4, hp4, hk4, hn4⟩)
              have h9 := rdP_pos (c := bt s) (sz := s.size) (nv := nv) (N := N) (s.size + 1) 115 (a + 1) (mkR s 59 a r1) hlt (unhide HC1)
              exact ⟨np + 1, _, _, v3, by have := unhide HNP; omega, by omega, p3, k3, n3, a1, a2, by omega, unhide HE⟩)
            clear hp4 hk4 hn4
            generalize (rdP (bt s) s.size nv N (s.size + 1) 115 (a + 1) (mkR s 59 a r1)).1 = a9 at *
            go_wp2_with fail
            go_roundg q1
            case measure => have := unhide HQ; omega
            case rel => exact ⟨a9, q1, rfl, rfl, unhide HL⟩
      · have hlt' : decide ((a : Int) < (s.size : Int)) = false := by simp; omega
        have HE := hide (show RR = (np, T, r1) by
          rw [unhide HR]
          simp only [rdG]
          rw [if_neg (fun x => hlt x.2)])
        clear hp
        go_wp2_with fail
        go_end0
        exact ⟨rfl, v1, by rw [unhide HE]; exact unhide HP, unhide HK, unhide HNO⟩
    · have he' : (r1.e == 0) = false := by simpa using he
      have HE := hide (show RR = (np, T, r1) by
        rw [unhide HR]
        simp only [rdG]
        rw [if_neg (fun x => he x.1)])
      clear hp
      go_wp2_with fail
      go_end0
      exact ⟨rfl, v1, by rw [unhide HE]; exact unhide HP, unhide HK, unhide HNO⟩

end Go.Proofs.Ytfcflnnleadpkab
