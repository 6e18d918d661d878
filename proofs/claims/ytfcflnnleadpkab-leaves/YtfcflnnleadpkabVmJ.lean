import Derived.Test.YtfcflnnleadpkabVaJ
import Derived.Test.YtfcflnnleadpkabUeJ
namespace Go.Proofs.Ytfcflnnleadpkab
open Go.RowKit

/-- The inputs of the levels there are. -/
def inpN (n : Nat) (inp : Nat → List Nat) (d : Nat) : List Nat := if d < n then inp d else []
/-- What a run comes to. -/
def rnR (o s : ByteArray) (n : Nat) (inp : Nat → List Nat) (fuel : Nat) : RS × Nat := ecR (pE (cl o n) s n) (inpN n inp) fuel
def evL (es : List (Nat × Nat)) (i : Nat) : Int × Int := (((es.getD i (0, 0)).1 : Int), ((es.getD i (0, 0)).2 : Int))
/-- What the program's own Run must come to. -/
def RunAns (o s : ByteArray) (inp : Nat → List Nat) (fuel : Int) (e : Ending) (w' : World) : Prop :=
  ∃ (a p : Int) (n : Nat), CkPost o s a p n ∧ ((a ≠ 0 ∧ e = .returned (.tuple #[.slice none 0 0, .int .i64 0, .int .i64 a])) ∨
    (a = 0 ∧ p = 0 ∧ ¬ (0 ≤ fuel ∧ fuel ≤ 10000) ∧ e = .returned (.tuple #[.slice none 0 0, .int .i64 0, .int .i64 7])) ∨
    (a = 0 ∧ p = 0 ∧ ∃ (f : Nat) (v : Value), fuel = (f : Int) ∧ f ≤ 10000 ∧ SlE w' v (rnR o s n inp f).1.out.length (evL (rnR o s n inp f).1.out) ∧ e = .returned (.tuple #[v, .int .i64 ((rnR o s n inp f).2 : Int), .int .i64 0])))
def HushRun : Prop := ∀ (w : World) (o s : ByteArray) (iv : Value) (inp : Nat → List Nat) (fuel : Int), (∀ n, n ≤ 8 → InpR w iv n inp) →
  Calls Try.prog 5 #[.string o, .string s, iv, .int .i64 fuel] w fun e w' => RunAns o s inp fuel e w' ∧ Below w.heap.size w w'
theorem InpR.congr {w : World} {iv : Value} {n : Nat} {inp inp' : Nat → List Nat} (h : InpR w iv n inp) (e : ∀ d, d < n → inp' d = inp d) : InpR w iv n inp' := by
  obtain ⟨a, len, cap, rfl, h⟩ := h
  exact ⟨a, len, cap, rfl, fun d hd => by rw [e d hd]; exact h d hd⟩
theorem inpN_in {n d : Nat} {inp : Nat → List Nat} (h : d < n) : inpN n inp d = inp d := by unfold inpN; rw [if_pos h]
theorem inpN_out {n d : Nat} {inp : Nat → List Nat} (h : n ≤ d) : inpN n inp d = [] := by unfold inpN; rw [if_neg (by omega)]
theorem ecR_same {E E' : Env} (h : Same E E') (inp : Nat → List Nat) (fuel : Nat) : ecR E inp fuel = ecR E' inp fuel := by
  unfold ecR; rw [h.s, h.P, h.main]

theorem ecR_len (E : Env) (inp : Nat → List Nat) (fuel : Nat) : (ecR E inp fuel).1.out.length ≤ fuel := by
  obtain ⟨l, e, hl⟩ := (exS_grow (c := bt E.s) (inp := inp) (P := fun k => (E.P k).toNat) (F := E.s.size + 1) 10000 E.main 0 ⟨fun _ => 0, fun _ => 0, [], fuel⟩).out
  unfold ecR
  rw [e]
  simp only [List.nil_append]
  have h2 : l.length + (exS (bt E.s) inp (fun k => (E.P k).toNat) (E.s.size + 1) 10000 E.main 0 ⟨fun _ => 0, fun _ => 0, [], fuel⟩).1.fuel ≤ fuel := hl
  omega

set_option maxHeartbeats 400000 in
theorem fuelled_any (w : World) (x : Int) : Calls Try.prog 10 #[.int .i64 x] w fun e w' => e = .returned (.bool (decide (0 ≤ x ∧ x ≤ 10000))) ∧ w' = w := by
  by_cases h1 : 0 ≤ x
  · have h1' : decide ((0 : Int) ≤ x) = true := by simpa using h1
    by_cases h2 : x ≤ 10000
    · have HX := hide (show decide (0 ≤ x ∧ x ≤ 10000) = true by simp [h1, h2])
      rw [unhide HX]
      have h2' : decide (x ≤ 10000) = true := by simpa using h2
      go_enter Try.func10, Try.ntmps10
      go_wp2_with fail
      go_ret
      exact ⟨rfl, rfl⟩
    · have HX := hide (show decide (0 ≤ x ∧ x ≤ 10000) = false by simp [h2])
      rw [unhide HX]
      have h2' : decide (x ≤ 10000) = false := by simpa using h2
      go_enter Try.func10, Try.ntmps10
      go_wp2_with fail
      go_ret
      exact ⟨rfl, rfl⟩
  · have HX := hide (show decide (0 ≤ x ∧ x ≤ 10000) = false by simp [h1])
    rw [unhide HX]
    have h1' : decide ((0 : Int) ≤ x) = false := by simpa using h1
    go_enter Try.func10, Try.ntmps10
    go_wp2_with fail
    go_ret
    exact ⟨rfl, rfl⟩


end Go.Proofs.Ytfcflnnleadpkab

namespace Go.Proofs.Ytfcflnnleadpkab
open Go.RowKit

theorem rnR_zero (o s : ByteArray) (n : Nat) (inp : Nat → List Nat) : rnR o s n inp 0 = (⟨fun _ => 0, fun _ => 0, [], 0⟩, 0) := exS_spent rfl

theorem rnR_more {o s : ByteArray} {n : Nat} {inp : Nat → List Nat} {f g : Nat} (hfg : f ≤ g) (hg : g ≤ 10000) :
    ((rnR o s n inp f).2 ≠ 0 ∧ (rnR o s n inp g).1.out = (rnR o s n inp f).1.out ∧ (rnR o s n inp g).2 = (rnR o s n inp f).2) ∨ ((rnR o s n inp f).2 = 0 ∧ (rnR o s n inp f).1.out <+: (rnR o s n inp g).1.out) := by
  have h := exS_more (c := bt (pE (cl o n) s n).s) (inp := inpN n inp) (P := fun k => ((pE (cl o n) s n).P k).toNat) (F := (pE (cl o n) s n).s.size + 1) (x := g - f) 10000 (pE (cl o n) s n).main 0 ⟨fun _ => 0, fun _ => 0, [], f⟩ (by show f + (g - f) ≤ 10000; omega)
  have e : addF ⟨fun _ => 0, fun _ => 0, [], f⟩ (g - f) = ⟨fun _ => 0, fun _ => 0, [], g⟩ := by
    unfold addF
    congr 1
    show f + (g - f) = g
    omega
  rw [e] at h
  rcases h with ⟨h0, h1⟩ | h
  · left
    have h2 : rnR o s n inp g = (addF (rnR o s n inp f).1 (g - f), (rnR o s n inp f).2) := h1
    exact ⟨h0, by rw [h2]; rfl, by rw [h2]⟩
  · exact Or.inr h
theorem rnR_end (o s : ByteArray) (n : Nat) (inp : Nat → List Nat) (f : Nat) : (rnR o s n inp f).2 ≤ 2 := exS_end _ _ _ _
theorem rnR_len (o s : ByteArray) (n : Nat) (inp : Nat → List Nat) (f : Nat) : (rnR o s n inp f).1.out.length ≤ f := ecR_len _ _ _
theorem rnR_sane {o s : ByteArray} {n : Nat} {inp : Nat → List Nat} {f : Nat} (K : Known o s n) (hin : ∀ d, d < n → ∀ x, x ∈ inp d → x < 65536) : ∀ e ∈ (rnR o s n inp f).1.out, e.1 < n ∧ e.2 < 65536 := by
  obtain ⟨j, hj⟩ := K.Q.main
  have h := exS_sane (c := bt s) (nv := prNv s n) (n := n) (np := (prPs s n).length) (inp := inpN n inp) (P := fun k => ((pE (cl o n) s n).P k).toNat) (F := s.size + 1) (fun d x hx => by
      unfold inpN at hx
      split at hx
      · rename_i hd; exact hin d hd x hx
      · simp at hx) (fun k hk => by
      obtain ⟨m, j', e, hm⟩ := K.Q.proc k hk
      refine ⟨j', ?_⟩
      show wfS (bt s) (prNv s n) n (prPs s n).length (s.size + 1) ((pE (cl o n) s n).P k).toNat = _
      rw [show ((pE (cl o n) s n).P k).toNat = m by omega]
      exact hm) 10000 (s.size + 1) (pE (cl o n) s n).main j 0 ⟨fun _ => 0, fun _ => 0, [], f⟩ hj (Nat.le_refl _) ⟨fun _ => by show 0 < 65536; omega, fun e he => by simp at he⟩
  exact h.out
theorem evL_pre {l l' : List (Nat × Nat)} (h : l <+: l') : l.length ≤ l'.length ∧ ∀ i, i < l.length → evL l i = evL l' i := by
  obtain ⟨m, rfl⟩ := h
  refine ⟨by simp, fun i hi => ?_⟩
  unfold evL
  have : (l ++ m).getD i (0, 0) = l.getD i (0, 0) := by simp [List.getElem?_append_left hi]
  rw [this]
theorem evL_ok {n : Nat} {l : List (Nat × Nat)} (h : ∀ e ∈ l, e.1 < n ∧ e.2 < 65536) : ∀ i, i < l.length → evOk n (evL l i) := by
  intro i hi
  have hm : l.getD i (0, 0) ∈ l := by simp [hi]
  have := h _ hm
  unfold evOk evL
  simp only
  omega

end Go.Proofs.Ytfcflnnleadpkab

namespace Go.Proofs.Ytfcflnnleadpkab

section
variable {c : Nat → Int} {nv n np l : Nat} {R : Nat → Nat → Bool} {V X T : Nat → Nat} {inp1 inp2 : Nat → List Nat} {P : Nat → Nat} {F : Nat}

/-- Whether an expression throws hangs on what D is above of alone. -/
theorem cond_none (A : Lat n R) (hV : ∀ k, k < nv → V k < n) {f i j p : Nat} (hs : scE c nv f i = (j, false)) (hp : p < n) {U W : Nat → Nat} (hU : Agr R n nv l V U W) (hD : Le R n (condW c R n V f i p).2.2 l) : evE c U f i = none ↔ evE c W f i = none := by
  cases hd : (labE c R n V f i).2.2.2
  · have h1 := evE_nodiv (R := R) (n := n) (V := V) (U := U) f _ _ hs hd
    have h2 := evE_nodiv (R := R) (n := n) (V := V) (U := W) f _ _ hs hd
    exact ⟨fun h => absurd h h1, fun h => absurd h h2⟩
  · simp only [condW, hd, if_true] at hD
    obtain ⟨a1, a2, a3⟩ := labE_ok (c := c) A.L A.n1 hV f i j hs
    exact (evE_low (c := c) A hV hU f i j hs).2 ((A.low_jn hp a3).1 hD).2
theorem two_ends {x y : Nat} (hx : x ≤ 2) (hy : y ≤ 2) (h1 : x ≠ 2) (h2 : y ≠ 2) : x = y ∨ x = 0 ∨ y = 0 := by omega

/-- In a context below l, two runs from states that are the same below l, with inputs that are: they go side by side. -/
theorem exS_low (A : Lat n R) (hl : l < n) (H : FitP c R n nv np V X T P F) (hin : ∀ d, Le R n d l → inp1 d = inp2 d) : ∀ (g f i j k p : Nat) (s1 s2 : RS), wfS c nv n np f i = (j, false) → f ≤ F → Le R n p l →
    DemH R V X (wd c R n V T f i p).2.2 → Simi R n nv l V s1 s2 → Rel R n nv l V (wd c R n V T f i p).2.1 (exS c inp1 P F g i k s1) (exS c inp2 P F g i k s2) := by
  have hV := H.iv
  have hT := H.it
  intro g
  induction g with
  | zero => intro f i j k p s1 s2 _ _ _ _ h; exact Or.inl ⟨h, fun _ => Or.inl rfl⟩
  | succ g ih =>
    intro f i j k p s1 s2 h hF hpl hD hs
    have hp := hpl.2.1
    have gr1 : ∀ (g i k : Nat) (st : RS), Grow st (exS c inp1 P F g i k st).1 := fun g i k st => exS_grow g i k st
    have gr2 : ∀ (g i k : Nat) (st : RS), Grow st (exS c inp2 P F g i k st).1 := fun g i k st => exS_grow g i k st
    by_cases hf1 : s1.fuel = 0
    · rw [exS_spent (inp := inp1) hf1]; exact Or.inr (Or.inl ⟨rfl, hs.pre (gr2 _ _ _ _)⟩)
    by_cases hf2 : s2.fuel = 0
    · rw [exS_spent (inp := inp2) hf2]; exact Or.inr (Or.inr ⟨rfl, hs.symm.pre (gr1 _ _ _ _)⟩)
    have hds := hs.decs
    cases f with
    | zero => simp [wfS] at h
    | succ f =>
      rcases wfS_letter h with hc | hc | hc | hc | hc | hc | hc | hc
      · rcases hc with hc | hc
        · rw [exS_no hf1 (by omega) (by omega) (by omega) (by omega) (by omega) (by omega) (by omega) (by omega) (by omega), exS_no hf2 (by omega) (by omega) (by omega) (by omega) (by omega) (by omega) (by omega) (by omega) (by omega)]
          exact Or.inl ⟨hds, fun _ => Or.inl rfl⟩
        · rw [exS_x hf1 hc, exS_x hf2 hc]; exact Or.inl ⟨hds, fun _ => Or.inl rfl⟩
      · obtain ⟨m, e1, e2⟩ := wfS_inv_seq h hc
        obtain ⟨a1, a2, a3⟩ := wd_ok (c := c) A.L A.n1 hV hT f (i + 1) p m e1 hp
        have hctx := A.lt hp a2
        obtain ⟨b1, b2, b3⟩ := wd_ok (c := c) A.L A.n1 hV hT f m _ j e2 hctx
        have hsk := skS_of f (i + 1) m F e1 (by omega)
        rw [wd_seq hc] at hD
        simp only at hD
        rw [a1] at hD
        have r1 := ih f (i + 1) m k p (dec s1) (dec s2) e1 (by omega) hpl hD.fst hds
        have hi : ¬ Le R n (wd c R n V T f (i + 1) p).2.1 l → (∀ st, Simi R n nv l V st (exS c inp1 P F g m k st).1) ∧ ∀ st, Simi R n nv l V st (exS c inp2 P F g m k st).1 := by
          intro hn
          have hn2 : ¬ Le R n (jn R n p (wd c R n V T f (i + 1) p).2.1) l := fun h => hn (A.trans (A.r hp a2) h)
          exact ⟨fun st => exS_high A hl H g f m j k _ st e2 (by omega) hctx hn2 hD.snd, fun st => exS_high A hl H g f m j k _ st e2 (by omega) hctx hn2 hD.snd⟩
        have both : ∀ s1 s2, Simi R n nv l V s1 s2 → Rel R n nv l V (wd c R n V T f m (jn R n p (wd c R n V T f (i + 1) p).2.1)).2.1 (exS c inp1 P F g m k s1) (exS c inp2 P F g m k s2) ∨ ¬ Le R n (wd c R n V T f (i + 1) p).2.1 l := by
          intro s1 s2 hs
          by_cases hlow : Le R n (wd c R n V T f (i + 1) p).2.1 l
          · exact Or.inl (ih f m j k _ s1 s2 e2 (by omega) (A.sup hpl hlow) hD.snd hs)
          · exact Or.inr hlow
        rw [wd_seq hc]
        simp only
        rw [a1]
        rcases hc with hc | hc
        · rw [exS_seq hf1 hc, exS_seq hf2 hc, hsk, if_pos hc]
          refine r1.then (by omega) (fun st => gr1 _ _ _ st) (fun st => gr2 _ _ _ st) (fun _ _ hs => ?_) hi (fun hn ht => absurd (A.trans (A.l a2 b2) ht) hn)
          rcases both _ _ hs with hr | hn
          · exact hr.mono (fun ht => A.trans (A.r a2 b2) ht)
          · obtain ⟨i1, i2⟩ := hi hn
            exact Or.inl ⟨(i1 _).symm.trans (hs.trans (i2 _)), fun ht => absurd (A.trans (A.l a2 b2) ht) hn⟩
        · rw [exS_t hf1 hc, exS_t hf2 hc, hsk, if_neg (by omega)]
          have calm : ¬ Le R n (wd c R n V T f (i + 1) p).2.1 l → Le R n (wd c R n V T f m (jn R n p (wd c R n V T f (i + 1) p).2.1)).2.1 l → ∀ (inp : Nat → List Nat) (st : RS), (exS c inp P F g m k st).2 ≠ 2 := by
            intro hn ht inp st
            exact exS_calm A hV hT g f m j k _ st e2 (by omega) hctx (fun hle => hn (A.trans (A.r hp a2) (A.trans hle ht)))
          refine r1.then (by omega) (fun st => gr1 _ _ _ st) (fun st => gr2 _ _ _ st) (fun _ _ hs => ?_) hi (fun hn ht => ?_)
          · rcases both _ _ hs with hr | hn
            · exact hr
            · obtain ⟨i1, i2⟩ := hi hn
              exact Or.inl ⟨(i1 _).symm.trans (hs.trans (i2 _)), fun ht => two_ends (exS_end _ _ _ _) (exS_end _ _ _ _) (calm hn ht _ _) (calm hn ht _ _)⟩
          · have ends : ∀ (inp : Nat → List Nat) (s : RS), (thenW 2 (exS c inp P F g (i + 1) k s) (exS c inp P F g m k)).2 ≠ 2 ∧ (thenW 2 (exS c inp P F g (i + 1) k s) (exS c inp P F g m k)).2 ≤ 2 := by
              intro inp s
              unfold thenW
              split
              · exact ⟨calm hn ht _ _, exS_end _ _ _ _⟩
              · rename_i hne; exact ⟨hne, exS_end _ _ _ _⟩
            exact two_ends (ends _ _).2 (ends _ _).2 (ends _ _).1 (ends _ _).1
      · obtain ⟨e1, e2⟩ := wfS_inv_eq h hc
        obtain ⟨v, ev, hv⟩ := isVar_nat e1
        obtain ⟨a1, a2, a3⟩ := condW_ok (c := c) A.L A.n1 hV hp e2
        rw [exS_eq hf1 hc, exS_eq hf2 hc, ev, evE_fuel f _ _ F e2 (by omega), evE_fuel f _ _ F e2 (by omega)]
        rw [wd_eq hc, ev] at hD
        rw [wd_eq hc]
        have hq : Le R n (labE c R n V f (i + 2)).2.1 (condW c R n V f (i + 2) p).2.1 := A.r hp (labE_ok (c := c) A.L A.n1 hV f _ _ e2).2.1
        exact setW_rel hds (fun hlow => (evE_low (c := c) A hV hs.V f _ _ e2).1 (A.trans hq (A.trans ⟨hD.get, a2, hV v hv⟩ hlow))) (fun hlow => cond_none A hV e2 hp hs.V hlow)
      · obtain ⟨m, q, e1, e2, e3⟩ := wfS_inv_i h hc
        obtain ⟨a1, a2, a3⟩ := condW_ok (c := c) A.L A.n1 hV hp e1
        have hlab := (labE_ok (c := c) A.L A.n1 hV f _ _ e1).2.1
        obtain ⟨b1, b2, b3⟩ := wd_ok (c := c) A.L A.n1 hV hT f m _ q e2 a2
        obtain ⟨d1, d2, d3⟩ := wd_ok (c := c) A.L A.n1 hV hT f q _ j e3 a2
        rw [exS_i hf1 hc, exS_i hf2 hc, skE_of f _ _ F e1 (by omega), skS_of f _ _ F e2 (by omega), evE_fuel f _ _ F e1 (by omega), evE_fuel f _ _ F e1 (by omega)]
        rw [wd_i hc] at hD
        rw [wd_i hc]
        simp only at hD ⊢
        rw [a1, b1] at hD
        rw [a1, b1]
        have t12 := A.lt b2 d2
        by_cases hlow : Le R n (labE c R n V f (i + 1)).2.1 l
        · rw [(evE_low (c := c) A hV hs.V f _ _ e1).1 hlow]
          have hql : Le R n (condW c R n V f (i + 1) p).2.1 l := A.sup hpl hlow
          unfold ifW
          cases evE c s2.V f (i + 1) with
          | none => exact Or.inl ⟨hds, fun _ => Or.inl rfl⟩
          | some y =>
            by_cases hy : y = 0
            · simp only [hy, if_true]
              exact (ih f q j k _ _ _ e3 (by omega) hql hD.snd hds).mono (fun ht => A.trans (A.r b2 d2) (A.trans (A.r a3 t12) ht))
            · simp only [hy, if_false]
              exact (ih f m q k _ _ _ e2 (by omega) hql hD.fst hds).mono (fun ht => A.trans (A.l b2 d2) (A.trans (A.r a3 t12) ht))
        · have hqn : ¬ Le R n (condW c R n V f (i + 1) p).2.1 l := fun h => hlow (A.trans (A.r hp hlab) h)
          have hi : ∀ (inp : Nat → List Nat) (s : RS) (x : Option Nat), Simi R n nv l V s (ifW s x (exS c inp P F g m k) (exS c inp P F g q k)).1 := by
            intro inp s x
            unfold ifW
            cases x with
            | none => exact Simi.refl _
            | some y =>
              simp only
              split
              · exact exS_high A hl H g f q j k _ _ e3 (by omega) a2 hqn hD.snd
              · exact exS_high A hl H g f m q k _ _ e2 (by omega) a2 hqn hD.fst
          refine Or.inl ⟨(hi _ _ _).symm.trans (hds.trans (hi _ _ _)), fun ht => ?_⟩
          have hDl := A.trans (A.l a3 t12) ht
          have hnn := cond_none A hV e1 hp hs.V hDl
          have ends : ∀ (inp : Nat → List Nat) (s : RS) (y : Nat), (ifW s (some y) (exS c inp P F g m k) (exS c inp P F g q k)).2 ≠ 2 ∧ (ifW s (some y) (exS c inp P F g m k) (exS c inp P F g q k)).2 ≤ 2 := by
            intro inp s y
            unfold ifW
            simp only
            split
            · exact ⟨exS_calm A hV hT g f q j k _ _ e3 (by omega) a2 (fun hle => hqn (A.trans hle (A.trans (A.r b2 d2) (A.trans (A.r a3 t12) ht)))), exS_end _ _ _ _⟩
            · exact ⟨exS_calm A hV hT g f m q k _ _ e2 (by omega) a2 (fun hle => hqn (A.trans hle (A.trans (A.l b2 d2) (A.trans (A.r a3 t12) ht)))), exS_end _ _ _ _⟩
          cases ex : evE c s1.V f (i + 1) with
          | none => rw [hnn.1 ex]; exact Or.inl rfl
          | some x =>
            cases ey : evE c s2.V f (i + 1) with
            | none => rw [hnn.2 ey] at ex; cases ex
            | some y => exact two_ends (ends _ _ _).2 (ends _ _ _).2 (ends _ _ _).1 (ends _ _ _).1
      · obtain ⟨m, e1, e2⟩ := wfS_inv_w h hc
        obtain ⟨a1, a2, a3⟩ := condW_ok (c := c) A.L A.n1 hV hp e1
        have hlab := (labE_ok (c := c) A.L A.n1 hV f _ _ e1).2.1
        have hrr := A.lt a2 a3
        have hth := wd_thr (c := c) A hV hT f m j e2
        obtain ⟨b1, b2, b3⟩ := wd_ok (c := c) A.L A.n1 hV hT f m _ j e2 hrr
        have hid := hth.idem A hrr
        have hcx := A.lt hrr b2
        rw [exS_w hf1 hc, exS_w hf2 hc, skE_of f _ _ F e1 (by omega)]
        rw [wd_w hc] at hD
        rw [wd_w hc]
        simp only at hD ⊢
        rw [a1] at hD
        rw [a1]
        generalize hr : jn R n (condW c R n V f (i + 1) p).2.1 (condW c R n V f (i + 1) p).2.2 = r at *
        by_cases hlow : Le R n (jn R n r (wd c R n V T f m r).2.1) l
        · have hql : Le R n (wd c R n V T f m r).2.1 l := A.trans (A.r hrr b2) hlow
          have hrl : Le R n r l := A.trans (A.l hrr b2) hlow
          have hal : Le R n (labE c R n V f (i + 1)).2.1 l := by
            have h1 : Le R n (condW c R n V f (i + 1) p).2.1 r := by rw [← hr]; exact A.l a2 a3
            exact A.trans (A.r hp hlab) (A.trans h1 hrl)
          refine (lpW_rel (t := (wd c R n V T f m r).2.1) (fun st => gr1 _ _ _ st) (fun st => gr2 _ _ _ st) hql (fun u1 u2 hu => ?_) (fun u1 u2 hu => ?_) g _ _ hds).mono (fun _ => hql)
          · rw [evE_fuel f _ _ F e1 (by omega), evE_fuel f _ _ F e1 (by omega)]
            exact (evE_low (c := c) A hV hu.V f _ _ e1).1 hal
          · have := ih f m j k _ u1 u2 e2 (by omega) hlow hD hu
            rw [hid] at this
            exact this
        · have hi : ∀ (inp : Nat → List Nat) (st : RS), Simi R n nv l V st (exS c inp P F g m k st).1 := fun inp st => exS_high A hl H g f m j k _ st e2 (by omega) hcx hlow hD
          refine Or.inl ⟨(lpW_high (fun st => hi _ st) _ _).symm.trans (hds.trans (lpW_high (fun st => hi _ st) _ _)), fun ht => ?_⟩
          have hDl := A.trans (A.l a3 b2) ht
          have hql := A.trans (A.r a3 b2) ht
          have hev : ∀ u1 u2, Simi R n nv l V u1 u2 → (evE c u1.V F (i + 1) = none ↔ evE c u2.V F (i + 1) = none) := by
            intro u1 u2 hu
            rw [evE_fuel f _ _ F e1 (by omega), evE_fuel f _ _ F e1 (by omega)]
            exact cond_none A hV e1 hp hu.V hDl
          have calm : ∀ (inp : Nat → List Nat) (st : RS), (exS c inp P F g m k st).2 ≠ 2 := fun inp st =>
            exS_calm A hV hT g f m j k _ st e2 (by omega) hcx (by rw [hid]; exact fun hle => hlow (A.trans hle hql))
          by_cases hx : evE c s1.V F (i + 1) = none
          · have hy := (hev s1 s2 hs).1 hx
            have thr : ∀ (run : RS → RS × Nat) (s : RS), evE c s.V F (i + 1) = none → lpW run (fun V => evE c V F (i + 1)) g (dec s) = (dec s, 2) := by
              intro run s hn
              have hn' : evE c (dec s).V F (i + 1) = none := hn
              cases g with
              | zero => simp only [lpW]; rw [hn']
              | succ g => simp only [lpW]; rw [hn']
            rw [thr _ s1 hx, thr _ s2 hy]; exact Or.inl rfl
          · have hy : evE c s2.V F (i + 1) ≠ none := fun e => hx ((hev s1 s2 hs).2 e)
            have fin : ∀ (inp : Nat → List Nat) (s : RS), evE c s.V F (i + 1) ≠ none → (lpW (exS c inp P F g m k) (fun V => evE c V F (i + 1)) g (dec s)).2 ≠ 2 := fun inp s hs' =>
              lpW_calm2 (fun st => calm inp st) (fun st => hi inp st) (fun u1 u2 hu h1 h2 => h1 ((hev u1 u2 hu).2 h2)) g (dec s) hs'
            exact two_ends (lpW_end (fun st => exS_end _ _ _ st) _ _) (lpW_end (fun st => exS_end _ _ _ st) _ _) (fin _ _ hx) (fin _ _ hy)
      · obtain ⟨e1, e2, rfl⟩ := wfS_inv_r h hc
        obtain ⟨x, ex, hx⟩ := isDB_nat e1
        obtain ⟨v, ev, hv⟩ := isVar_nat e2
        rw [exS_r hf1 hc, exS_r hf2 hc, ex, ev]
        rw [wd_r hc, ex, ev] at hD
        rw [wd_r hc, ex]
        have g2 : Le R n (jn R n p x) (V v) := ⟨hD ⟨i, jn R n p x, .var v⟩ (by simp), A.lt hp hx, hV v hv⟩
        exact rdW_rel hds (fun hlow => by rw [show ((x : Int)).toNat = x from rfl] at *; rw [hin x hlow, hs.tk x hlow]) (fun hlow => A.trans (A.r hp hx) (A.trans g2 hlow)) (fun hlow => A.trans (A.r hp hx) hlow)
      · obtain ⟨e1, e2⟩ := wfS_inv_o h hc
        obtain ⟨x, ex, hx⟩ := isDB_nat e1
        obtain ⟨a1, a2, a3⟩ := condW_ok (c := c) A.L A.n1 hV hp e2
        rw [exS_o hf1 hc, exS_o hf2 hc, ex, evE_fuel f _ _ F e2 (by omega), evE_fuel f _ _ F e2 (by omega)]
        rw [wd_o hc, ex] at hD
        rw [wd_o hc]
        have hq : Le R n (labE c R n V f (i + 2)).2.1 (condW c R n V f (i + 2) p).2.1 := A.r hp (labE_ok (c := c) A.L A.n1 hV f _ _ e2).2.1
        exact outW_rel hl hds (fun hlow => (evE_low (c := c) A hV hs.V f _ _ e2).1 (A.trans hq (A.trans ⟨hD.get, a2, hx⟩ hlow))) (fun hlow => cond_none A hV e2 hp hs.V hlow)
      · obtain ⟨e1, rfl⟩ := wfS_inv_c h hc
        obtain ⟨x, ex, hx⟩ := isDB_nat e1
        rw [exS_c hf1 hc, exS_c hf2 hc, ex]
        rw [wd_c hc, ex] at hD
        rw [wd_c hc, ex]
        simp only
        have g1 : Le R n p (X x) := ⟨hD.get, hp, H.ix x hx⟩
        obtain ⟨j', w1, w2, w3⟩ := H.proc x hx
        by_cases h8 : 8 ≤ k
        · rw [if_pos h8, if_pos h8]; exact Or.inl ⟨hds, fun _ => Or.inl rfl⟩
        · rw [if_neg h8, if_neg h8]
          have ht2 : Le R n (jn R n p (T x)) l → Le R n (wd c R n V T F (P x) (X x)).2.1 l := fun ht => A.trans w3 (A.trans (A.r hp (H.it x hx)) ht)
          by_cases hlow : Le R n (X x) l
          · exact (ih F _ j' _ _ _ _ w1 (Nat.le_refl _) hlow w2 hds).mono ht2
          · have hi : ∀ (inp : Nat → List Nat) (st : RS), Simi R n nv l V st (exS c inp P F g (P x) (k + 1) st).1 := fun inp st => exS_high A hl H g F _ j' _ _ st w1 (Nat.le_refl _) (H.ix x hx) hlow w2
            refine Or.inl ⟨(hi _ _).symm.trans (hds.trans (hi _ _)), fun ht => ?_⟩
            have calm : ∀ (inp : Nat → List Nat) (st : RS), (exS c inp P F g (P x) (k + 1) st).2 ≠ 2 := fun inp st =>
              exS_calm A hV hT g F _ j' _ _ st w1 (Nat.le_refl _) (H.ix x hx) (fun hle => hlow (A.trans hle (ht2 ht)))
            exact two_ends (exS_end _ _ _ _) (exS_end _ _ _ _) (calm _ _) (calm _ _)
/-- What two runs put out below l: the one is a beginning of the other. -/
theorem Rel.seen {t : Nat} {a b : RS × Nat} (h : Rel R n nv l V t a b) : seenL R n l a.1.out <+: seenL R n l b.1.out ∨ seenL R n l b.1.out <+: seenL R n l a.1.out := by
  rcases h with ⟨h1, _⟩ | h | h
  · left; rw [h1.out]; exact List.prefix_refl _
  · exact Or.inl h.2
  · exact Or.inr h.2
end

end Go.Proofs.Ytfcflnnleadpkab

namespace Go.Proofs.Ytfcflnnleadpkab
open Go.RowKit

theorem allD_main {E : Env} {f : Nat} {V X T : Nat → Nat} {d : Dm} (h : d ∈ (tdM E f V T).2.2) : ∀ m, d ∈ allD E f V X T m := by
  intro m
  induction m with
  | zero => exact h
  | succ m ih => exact List.mem_append_left _ ih
theorem allD_proc {E : Env} {f : Nat} {V X T : Nat → Nat} {d : Dm} {k : Nat} (h : d ∈ (tdP E f V X T k).2.2) : ∀ m, k < m → d ∈ allD E f V X T m := by
  intro m
  induction m with
  | zero => intro hk; omega
  | succ m ih =>
    intro hk
    by_cases e : k = m
    · subst e; exact List.mem_append_right _ h
    · exact List.mem_append_left _ (ih (by omega))

/-- Two runs of a program that is taken, with inputs that are the same below a level: below it the one's events are a beginning of the other's. -/
theorem rnR_secret {o s : ByteArray} {n l f g : Nat} {inp1 inp2 : Nat → List Nat} (hc : CkPost o s 0 0 n) (hl : l < n) (hin : ∀ d, d < n → cl o n d l = true → inp1 d = inp2 d) :
    seenL (cl o n) n l (rnR o s n inp1 f).1.out <+: seenL (cl o n) n l (rnR o s n inp2 g).1.out ∨ seenL (cl o n) n l (rnR o s n inp2 g).1.out <+: seenL (cl o n) n l (rnR o s n inp1 f).1.out := by
  obtain ⟨hrd, hpe, hb⟩ : ReadPost o 0 0 n ∧ prE s n = 0 ∧ ckB o s n < 0 := by
    rcases hc with ⟨_, h⟩ | ⟨_, h, e, _⟩ | ⟨_, _, _, e, _⟩ | ⟨h1, h2, h3, _⟩
    · exact absurd rfl h
    · exact absurd e.symm h
    · omega
    · exact ⟨h1, h2, h3⟩
  have K := known hrd hpe
  have L : LowOk (pE (cl o n) s n) (s.size + 1) (ckL o s n).V (ckL o s n).X (ckL o s n).T := lowW_ok K.A K.Q K.n8 K.nv K.np
  have W := L.fits K.A hb
  obtain ⟨j, hj⟩ := K.Q.main
  have H : FitP (bt s) (cl o n) n (prNv s n) (prPs s n).length (ckL o s n).V (ckL o s n).X (ckL o s n).T (fun k => ((pE (cl o n) s n).P k).toNat) (s.size + 1) := by
    refine ⟨L.iv, L.ix, L.it, fun k hk => ?_⟩
    obtain ⟨m, j', e, hm⟩ := K.Q.proc k hk
    refine ⟨j', ?_, fun d hd => W.dem d (allD_proc (k := k) hd _ hk), L.soft.thr k hk⟩
    show wfS (bt s) (prNv s n) n (prPs s n).length (s.size + 1) ((pE (cl o n) s n).P k).toNat = _
    rw [show ((pE (cl o n) s n).P k).toNat = m by omega]
    exact hm
  have hi : ∀ d, Le (cl o n) n d l → inpN n inp1 d = inpN n inp2 d := by
    intro d hd
    unfold inpN
    rw [if_pos hd.2.1, if_pos hd.2.1]
    exact hin d hd.2.1 hd.1
  exact (exS_low K.A hl H hi 10000 (s.size + 1) (pE (cl o n) s n).main j 0 (bot (cl o n) n) ⟨fun _ => 0, fun _ => 0, [], f⟩ ⟨fun _ => 0, fun _ => 0, [], g⟩ hj (Nat.le_refl _) (K.A.bl hl) (fun d hd => W.dem d (allD_main hd _)) ⟨fun _ _ _ => rfl, fun _ _ => rfl, rfl⟩).seen

end Go.Proofs.Ytfcflnnleadpkab

namespace Go.Proofs.Ytfcflnnleadpkab
open Go.RowKit

/-- Run of a program that is taken, with a fuel within its range. -/
theorem HushRun.ok (H : HushRun) {w : World} {o s : ByteArray} {iv : Value} {inp : Nat → List Nat} {n f : Nat} (hc : CkPost o s 0 0 n) (hf : f ≤ 10000) (hI : ∀ n, n ≤ 8 → InpR w iv n inp) :
    Calls Try.prog 5 #[.string o, .string s, iv, .int .i64 (f : Int)] w fun e w' => ∃ v, e = .returned (.tuple #[v, .int .i64 ((rnR o s n inp f).2 : Int), .int .i64 0]) ∧ SlE w' v (rnR o s n inp f).1.out.length (evL (rnR o s n inp f).1.out) ∧ Below w.heap.size w w' := by
  refine (H w o s iv inp f hI).mono ?_
  rintro e w' ⟨⟨a, p, n', hr, hans⟩, hb⟩
  obtain ⟨rfl, rfl, rfl⟩ := CkPost_uniq hc hr
  rcases hans with ⟨h0, _⟩ | ⟨_, _, h0, _⟩ | ⟨_, _, f', v, hf', _, hsl, rfl⟩
  · exact absurd rfl h0
  · exact absurd ⟨by omega, by omega⟩ h0
  · have : f' = f := by omega
    subst this
    exact ⟨v, rfl, hsl, hb⟩
theorem HushRun.bad (H : HushRun) {w : World} {o s : ByteArray} {iv : Value} {inp : Nat → List Nat} {a p : Int} {n : Nat} {fuel : Int} (hc : CkPost o s a p n) (hf : a ≠ 0 ∨ ¬ (0 ≤ fuel ∧ fuel ≤ 10000)) (hI : ∀ n, n ≤ 8 → InpR w iv n inp) :
    Calls Try.prog 5 #[.string o, .string s, iv, .int .i64 fuel] w fun e w' => ∃ x, x ≠ 0 ∧ e = .returned (.tuple #[.slice none 0 0, .int .i64 0, .int .i64 x]) ∧ Below w.heap.size w w' := by
  refine (H w o s iv inp fuel hI).mono ?_
  rintro e w' ⟨⟨a', p', n', hr, hans⟩, hb⟩
  obtain ⟨rfl, rfl, rfl⟩ := CkPost_uniq hc hr
  rcases hans with ⟨h0, rfl⟩ | ⟨_, _, _, rfl⟩ | ⟨h0, _, f', v, hf', hf2, _, _⟩
  · exact ⟨a, h0, rfl, hb⟩
  · exact ⟨7, by omega, rfl, hb⟩
  · exfalso
    rcases hf with h | h
    · exact h h0
    · exact h ⟨by omega, by omega⟩


end Go.Proofs.Ytfcflnnleadpkab

namespace Go.Proofs.Ytfcflnnleadpkab
open Go.RowKit
variable {w w' : World}

/-- A level's list in memory. -/
def RowIs (w : World) (u : Value) (L : List Nat) : Prop := ∃ (ra : Option Addr) (rl rc : Nat) (Z : Nat → Int), u = .slice ra rl rc ∧ (∀ j, j < rl → ∃ rad, ra = some rad ∧ w.cell? (rad.add j) = some (.int .i64 (Z j))) ∧ L = (List.range rl).map (fun j => (Z j % 65536).toNat)
theorem RowIs.below {u : Value} {L : List Nat} (h : RowIs w u L) (hb : Below w.heap.size w w') : RowIs w' u L := by
  obtain ⟨ra, rl, rc, Z, e, hc, eL⟩ := h
  refine ⟨ra, rl, rc, Z, e, fun j hj => ?_, eL⟩
  obtain ⟨rad, e1, c1⟩ := hc j hj
  exact ⟨rad, e1, (World.cell?_of_block (w := w) (hb.block _ (World.block_lt_of_cell? w _ c1))).trans c1⟩
theorem RowIs.nil : RowIs w (.slice none 0 0) [] := ⟨none, 0, 0, fun _ => 0, rfl, fun j hj => by omega, rfl⟩
/-- Inputs that were put together: m lists. -/
theorem InpR.own {B m n : Nat} {ty : TypeId} {v : Value} {Ls : List Value} {inp : Nat → List Nat} (h : w.ownsRow B ty 1 v m Ls) (hr : ∀ d, d < m → ∃ u, Ls[d]? = some u ∧ RowIs w u (inp d)) (hz : ∀ d, m ≤ d → inp d = []) : InpR w v n inp := by
  rcases h.2 with ⟨rfl, e1⟩ | ⟨g, cap, cur, rfl, hb, hg, _, _, _, ht⟩
  · exact ⟨none, 0, 0, rfl, fun d _ => ⟨fun h => by omega, fun _ => hz d (by omega)⟩⟩
  · refine ⟨_, m, cap, rfl, fun d _ => ⟨fun hd => ?_, hz d⟩⟩
    obtain ⟨u, hu, ra, rl, rc, Z, rfl, hc, eL⟩ := hr d hd
    refine ⟨⟨g, 0, none⟩, ra, rl, rc, Z, rfl, ?_, hc, eL⟩
    have e : (Addr.mk g 0 none).add d = ⟨g, d, none⟩ := by simp [Addr.add]; omega
    have h2 : (cur.toList.take (m * 1))[d]? = some (.slice ra rl rc) := by rw [ht]; exact hu
    rw [List.getElem?_take_of_lt (by omega)] at h2
    simp only [Array.getElem?_toList] at h2
    rw [e, cell_of_row w g d cur _ _ hg, h2]
/-- A list of what came in. -/
theorem InpR.row {iv : Value} {n d : Nat} {inp : Nat → List Nat} (h : InpR w iv n inp) (hd : d < n) : ∃ a len cap, iv = .slice a len cap ∧ ((d < len → ∃ ad u, a = some ad ∧ w.cell? (ad.add d) = some u ∧ RowIs w u (inp d)) ∧ (len ≤ d → inp d = [])) := by
  obtain ⟨a, len, cap, e, h⟩ := h
  refine ⟨a, len, cap, e, fun hl => ?_, (h d hd).2⟩
  obtain ⟨ad, ra, rl, rc, Z, e1, c1, c2, e2⟩ := (h d hd).1 hl
  exact ⟨ad, _, e1, c1, ra, rl, rc, Z, rfl, c2, e2⟩

/-- Two runs' inputs that are the same as far as a run can take. -/
theorem rnR_deaf {o s : ByteArray} {n : Nat} {inp inp' : Nat → List Nat} {f : Nat} (h : ∀ d, d < n → ∀ j, j < f → (inp d)[j]? = (inp' d)[j]?) : rnR o s n inp f = rnR o s n inp' f := by
  refine exS_deaf _ _ _ _ (fun d j hj => ?_)
  have hj' : j < f := by
    have : j < 0 + f := hj
    omega
  unfold inpN
  split
  · rename_i hd; exact h d hd j hj'
  · rfl

theorem info_rowsI : (Try.prog.info? 23).map (fun i => (i.zero, i.size, i.bytes)) = some (some (.slice none 0 0), 1, 24) := by kernel_rfl

end Go.Proofs.Ytfcflnnleadpkab

namespace Go.Proofs.Ytfcflnnleadpkab
open Go.RowKit

/-- One event more is looked at. -/
theorem seenL_succ {R : Nat → Nat → Bool} {n l j : Nat} {es : List (Nat × Nat)} (hj : j < es.length) :
    seenL R n l (es.take (j + 1)) = seenL R n l (es.take j) ++ if (decide ((es.getD j (0, 0)).1 < n) && R (es.getD j (0, 0)).1 l) = true then [es.getD j (0, 0)] else [] := by
  have e : es.getD j (0, 0) = es[j] := by simp [hj]
  unfold seenL
  rw [List.take_add_one, List.filter_append, e, List.getElem?_eq_getElem hj]
  congr 1
  by_cases h : (decide (es[j].1 < n) && R es[j].1 l) = true
  · simp only [Option.toList_some, h, if_true]
    rw [List.filter_cons_of_pos (p := fun e : Nat × Nat => decide (e.1 < n) && R e.1 l) h, List.filter_nil]
  · rw [if_neg h]
    simp only [Option.toList_some]
    rw [List.filter_cons_of_neg (p := fun e : Nat × Nat => decide (e.1 < n) && R e.1 l) h, List.filter_nil]
/-- As cells. -/
theorem evC_twL (es : List (Nat × Nat)) : evC es = twC (evL es) es.length := evC_twC es
theorem twC_evL_app (es : List (Nat × Nat)) (e : Nat × Nat) : twC (evL es) es.length ++ [.int .i64 (e.1 : Int), .int .i64 (e.2 : Int)] = twC (evL (es ++ [e])) (es ++ [e]).length := by
  rw [← evC_twL, ← evC_twL, evC_app]
  rfl
theorem seenL_len {R : Nat → Nat → Bool} {n l : Nat} (es : List (Nat × Nat)) : (seenL R n l es).length ≤ es.length := List.length_filter_le _ _

/-- The inputs of the one below a level, of the other elsewhere. -/
def mixI (R : Nat → Nat → Bool) (n l : Nat) (a b : Nat → List Nat) (d : Nat) : List Nat := if d < n then (if R d l then a d else b d) else []
theorem mixI_low {R : Nat → Nat → Bool} {n l : Nat} {a b : Nat → List Nat} (d : Nat) (h : d < n) (hr : R d l = true) : a d = mixI R n l a b d := by
  unfold mixI; rw [if_pos h, if_pos hr]
theorem mixI_high {R : Nat → Nat → Bool} {n l : Nat} {a b : Nat → List Nat} (d : Nat) (h : d < n) (hr : R d l = false) : b d = mixI R n l a b d := by
  unfold mixI; rw [if_pos h, hr]; rfl
theorem mixI_out {R : Nat → Nat → Bool} {n l : Nat} {a b : Nat → List Nat} (d : Nat) (h : n ≤ d) : mixI R n l a b d = [] := by
  unfold mixI; rw [if_neg (by omega)]
/-- Secret, of a program that is taken. -/
theorem rnR_mixed {o s : ByteArray} {n l f g : Nat} {a b : Nat → List Nat} (hc : CkPost o s 0 0 n) (hl : l < n) :
    seenL (cl o n) n l (rnR o s n a f).1.out <+: seenL (cl o n) n l (rnR o s n (mixI (cl o n) n l a b) g).1.out ∨ seenL (cl o n) n l (rnR o s n (mixI (cl o n) n l a b) g).1.out <+: seenL (cl o n) n l (rnR o s n a f).1.out :=
  rnR_secret hc hl (fun d h hr => mixI_low d h hr)

end Go.Proofs.Ytfcflnnleadpkab

namespace Go.Proofs.Ytfcflnnleadpkab
open Go.RowKit
variable {w w' : World}

/-- The inputs cut at the fuel, and one list more. -/
def cutI (n f : Nat) (inp : Nat → List Nat) (E : List Nat) (d : Nat) : List Nat := if d < n then (inp d).take f else if d = n then E else []
theorem cutI_in {n f : Nat} {inp : Nat → List Nat} {E : List Nat} {d : Nat} (h : d < n) : cutI n f inp E d = (inp d).take f := by unfold cutI; rw [if_pos h]
theorem cutI_at {n f : Nat} {inp : Nat → List Nat} {E : List Nat} : cutI n f inp E n = E := by unfold cutI; rw [if_neg (by omega), if_pos rfl]
theorem cutI_out {n f : Nat} {inp : Nat → List Nat} {E : List Nat} {d : Nat} (h : n + 1 ≤ d) : cutI n f inp E d = [] := by unfold cutI; rw [if_neg (by omega), if_neg (by omega)]
theorem rnR_cut {o s : ByteArray} {n f : Nat} {inp : Nat → List Nat} {E : List Nat} : rnR o s n (cutI n f inp E) f = rnR o s n inp f :=
  rnR_deaf (fun d hd j hj => by rw [cutI_in hd, List.getElem?_take_of_lt hj])
/-- A list that is cut. -/
theorem RowIs.cut {ra : Option Addr} {rl rc f : Nat} {L : List Nat} (h : RowIs w (.slice ra rl rc) L) (hf : f < rl) : RowIs w (.slice ra f rc) (L.take f) := by
  obtain ⟨ra', rl', rc', Z, e, hc, eL⟩ := h
  injection e with e1 e2 e3
  subst e1 e2 e3
  refine ⟨ra, f, rc, Z, rfl, fun j hj => hc j (by omega), ?_⟩
  rw [eL, ← List.map_take, List.take_range, Nat.min_eq_left (by omega)]
theorem RowIs.whole {ra : Option Addr} {rl rc f : Nat} {L : List Nat} (h : RowIs w (.slice ra rl rc) L) (hf : rl ≤ f) : L.take f = L := by
  obtain ⟨ra', rl', rc', Z, e, hc, eL⟩ := h
  injection e with e1 e2 e3
  subst e1 e2 e3
  rw [eL, List.take_of_length_le (by simp; omega)]

theorem keepC {a : Addr} {v : Value} (hb : Below w.heap.size w w') (c : w.cell? a = some v) : w'.cell? a = some v :=
  (World.cell?_of_block (w := w) (hb.block _ (World.block_lt_of_cell? w _ c))).trans c
/-- The first lists. -/
def RowsTo (w : World) (Ls : List Value) (m : Nat) (I : Nat → List Nat) : Prop := ∀ d, d < m → ∃ u, Ls[d]? = some u ∧ RowIs w u (I d)
theorem rows_app {Ls : List Value} {m : Nat} {I : Nat → List Nat} {u : Value} (hl : Ls.length = m) (h : RowsTo w Ls m I) (hu : RowIs w u (I m)) : RowsTo w (Ls ++ [u]) (m + 1) I := by
  intro d hd
  by_cases e : d < m
  · obtain ⟨v, h1, h2⟩ := h d e
    exact ⟨v, by rw [List.getElem?_append_left (by omega)]; exact h1, h2⟩
  · have : d = m := by omega
    subst this
    exact ⟨u, by rw [← hl]; simp, hu⟩
/-- A list with room: no list is longer than what it may hold. -/
def Room (w : World) (iv : Value) : Prop := ∀ ad len cap d ra rl rc, iv = .slice (some ad) len cap → d < len → w.cell? (ad.add d) = some (.slice ra rl rc) → rl ≤ rc

end Go.Proofs.Ytfcflnnleadpkab
