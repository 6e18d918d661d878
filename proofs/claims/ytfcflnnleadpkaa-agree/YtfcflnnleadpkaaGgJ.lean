import Derived.Test.YtfcflnnleadpkaaGeJ
import Derived.Test.YtfcflnnleadpkaaTaJ
import Derived.Test.YtfcflnnleadpkaaFdJ
namespace Go.Proofs.Ytfcflnnleadpkaa
open Go.RowKit
variable {B : Nat} {w w' w'' : World} {b : Nat} {s : ByteArray} {N nv np : Nat} {S : Nat → Int} {r r' : RdS} {v v' : Value}

/-- Every call is a digit. -/
def Digs (c : Nat → Int) (C : List Nat) : Prop := ∀ k, k ∈ C → isDB (c k) 4 = true
theorem rdP_digs {c : Nat → Int} {sz : Nat} : ∀ (f : Nat) (k : Int) (a : Nat) (r : RdS), Digs c r.C → Digs c (rdP c sz nv N f k a r).2.C := by
  intro f
  induction f with
  | zero => intro k a r h; exact h
  | succ f ih =>
    intro k a r h
    have hL : ∀ (inn : ByteArray) (m i nx : Nat) (r : RdS), Digs c r.C → Digs c (rdL (rdP c sz nv N f) a inn m i nx r).2.C := by
      intro inn m
      induction m with
      | zero => intro i nx r h; exact h
      | succ m ihm =>
        intro i nx r h
        simp only [rdL]
        exact ihm _ _ _ (ih _ _ _ h)
    by_cases he : r.e = 0
    · by_cases hs : a < sz
      · cases hp : ptI nv N k (c a) with
        | none => rw [rdP_bad he hs hp, refR_C]; exact h
        | some inn =>
          rw [rdP_go he hs hp]
          refine hL _ _ _ _ _ ?_
          by_cases hk : k = 112
          · rw [if_pos hk]
            subst hk
            intro x hx
            rcases List.mem_append.1 hx with hx | hx
            · exact h x hx
            · rw [List.mem_singleton.1 hx]
              have h9 : ptI nv N 112 (c a) = yesI (isDB (c a) 4) := rfl
              rw [h9] at hp
              cases e : isDB (c a) 4 with
              | true => rfl
              | false => rw [e] at hp; cases hp
          · rw [if_neg hk]; exact h
      · rw [rdP_end he hs, refR_C]; exact h
    · rw [rdP_flt he]; exact h
theorem rdG_digs : ∀ (g a np : Nat) (S : Nat → Int) (r : RdS), Digs (bt s) r.C → Digs (bt s) (rdG s nv N g a np S r).2.2.C := by
  intro g
  induction g with
  | zero => intro a np S r h; exact h
  | succ g ih =>
    intro a np S r h
    simp only [rdG]
    split
    · split
      · rw [refR_C]; exact h
      · exact ih _ _ _ _ (rdP_digs _ _ _ _ (by rw [mkR_C]; exact h))
    · exact h
theorem rdAll_digs (h : Digs (bt s) r.C) : Digs (bt s) (rdAll s nv N S r).2.2.C := rdG_digs _ _ _ _ _ (rdP_digs _ _ _ _ (by rw [mkR_C]; exact h))

/-- The fault that a missing procedure is. -/
def msR (s : ByteArray) (np : Nat) (r : RdS) : RdS := match badCall (bt s) np r.C with | some k => { r with e := 5, p := (k : Int) } | none => r
set_option maxHeartbeats 1000000 in
set_option maxRecDepth 100000 in
theorem missing_ok (h : PR B w b s N nv np S r v) (hC : r.C.length ≤ 302) (hd : Digs (bt s) r.C) :
    Calls Try.prog 75 #[.pointer (some ⟨b, 0, none⟩)] w fun e w' => e = .returned (.tuple #[]) ∧ PR B w' b s N nv np S (msR s np r) v ∧ Kp b v.ownBlock w w' := by
  have HM := hide (show msR s np r = match badCall (bt s) np (r.C.drop 0) with | some k => { r with e := 5, p := (k : Int) } | none => r from rfl)
  obtain ⟨ad, cap, rfl, hcell⟩ := own_cells h.own
  have HC := hide hcell
  have HD := hide hd
  have HH := hide h
  clear hcell hd
  have k9 := h.c911
  have k5 := h.c5
  have k2 := h.c2
  have k0 := h.c0
  have k1 := h.c1
  have z0 := h.fz 0
  have z1 := h.fz 1
  clear h
  go_enter Try.func75, Try.ntmps75
  go_wp2_with fail
  go_loopw [2] (fun d wr => ∃ m q : Nat, m ≤ r.C.length ∧ d = .int .i64 (m : Int) ∧ wr = w.drewN q ∧ badCall (bt s) np (r.C.drop 0) = badCall (bt s) np (r.C.drop m)) (fun d _ => r.C.length - (intOf d).toNat)
  case atStart => exact ⟨0, 0, Nat.zero_le _, rfl, rfl, rfl⟩
  case round =>
    obtain ⟨m, q, hm, rfl, rfl, hq⟩ := hrel
    have HQ := hide hq
    clear hq
    by_cases hlt : m < r.C.length
    · have hlt' : (m : Int) < (r.C.length : Int) := by omega
      obtain ⟨g, rfl, hg⟩ := unhide HC m hlt
      have HB := hide (badCall_drop (bt s) np r.C m hlt)
      have hdm := unhide HD (r.C.getD m 0) (by simp [hlt])
      obtain ⟨x, ex, hx4⟩ := isDB_nat (m := 4) hdm
      have hks := isDB_lt hdm
      have HDG := hide (show dgt (bt s (r.C.getD m 0)) 4 = (x : Int) by rw [dgt_yes ((isDB_iff _ _).1 hdm)]; exact ex)
      have HEX := hide ex
      clear hdm ex
      generalize r.C.getD m 0 = k at *
      have HPE := hide (fun q : Nat => ((unhide HH).drewN q).putE 5 (k : Int))
      have HKD := hide (fun q : Nat => show Kp b (Value.slice (some ⟨g, 0, none⟩) r.C.length cap).ownBlock w (w.drewN q) from ⟨rfl, rfl, rfl, Nat.le_refl _, fun _ _ _ _ => rfl⟩)
      by_cases hge : (np : Int) ≤ (x : Int)
      · have HF := hide (show msR s np r = { r with e := 5, p := (k : Int) } by
          rw [unhide HM, unhide HQ, unhide HB, unhide HDG, if_pos hge])
        go_wp2_with fail
        go_region_with (go_at_call 100; refine (pDigit_at _ _ 0 k s rfl ((unhide HH).drewN (q + 1)).c2 hks (unhide HEX)).mono ?_; rintro e w' ⟨rfl, rfl⟩)
        all_goals
          go_wp2_with fail
          refine bodyPost_ret (v := .tuple #[]) (results_none Try.results75 _ _ _) rfl ⟨rfl, ?_, ?_⟩
          · rw [unhide HF]; exact (unhide HPE (q + 1)).1
          · exact (unhide HKD (q + 1)).trans (unhide HPE (q + 1)).2 (Or.inl rfl)
      · have HF := hide (show badCall (bt s) np (r.C.drop 0) = badCall (bt s) np (r.C.drop (m + 1)) by
          rw [unhide HQ, unhide HB, unhide HDG, if_neg hge])
        have hge' : decide ((np : Int) ≤ (x : Int)) = false := by simpa using hge
        go_wp2_with fail
        go_region_with (go_at_call 100; refine (pDigit_at _ _ 0 k s rfl ((unhide HH).drewN (q + 1)).c2 hks (unhide HEX)).mono ?_; rintro e w' ⟨rfl, rfl⟩)
        all_goals
          go_wp2_with fail
          go_roundw
          case rel => exact ⟨m + 1, q + 1, by omega, by go_num, rfl, unhide HF⟩
          case measure => simp [intOf]; omega
    · have hlt' : decide ((m : Int) < (r.C.length : Int)) = false := by simp; omega
      have HF := hide (show msR s np r = r by
        rw [unhide HM, unhide HQ, List.drop_of_length_le (by omega)]; rfl)
      have HKD := hide (fun q : Nat => show Kp b (Value.slice ad r.C.length cap).ownBlock w (w.drewN q) from ⟨rfl, rfl, rfl, Nat.le_refl _, fun _ _ _ _ => rfl⟩)
      go_wp2_with fail
      go_end0
      exact ⟨rfl, by rw [unhide HF]; exact (unhide HH).drewN _, unhide HKD _⟩

end Go.Proofs.Ytfcflnnleadpkaa

namespace Go.Proofs.Ytfcflnnleadpkaa

section
variable {s : ByteArray} {N nv np : Nat} {S : Nat → Int} {r : RdS}

theorem bt_out : ∀ a, s.size ≤ a → bt s a = 0 := fun a h => by unfold bt; rw [dif_neg (by omega)]
theorem mkR_yes {m : Int} {a : Nat} (h : bt s a = m) (hm : m ≠ 0) : mkR s m a r = r ∧ a < s.size := by
  have ha : a < s.size := by
    by_cases ha : a < s.size
    · exact ha
    · exact absurd (bt_out (s := s) a (by omega)) (by rw [h]; exact hm)
  unfold mkR; rw [if_pos ⟨ha, h⟩]; exact ⟨rfl, ha⟩
theorem mkR_no {m : Int} {a : Nat} (he : r.e = 0) (h : bt s a ≠ m) : (mkR s m a r).e = 4 ∧ (mkR s m a r).p = (a : Int) := by
  unfold mkR; rw [if_neg (fun x => h x.2)]
  exact refR_flt (a := a) he
theorem rdG_stuck (h : r.e ≠ 0) : ∀ g a np S, rdG s nv N g a np S r = (np, S, r) := by
  intro g a np S
  cases g with
  | zero => rfl
  | succ g => simp only [rdG]; rw [if_neg (fun x => h x.1)]

theorem rdG_end {g a : Nat} (h : ¬ (r.e = 0 ∧ a < s.size)) : rdG s nv N (g + 1) a np S r = (np, S, r) := by simp only [rdG]; rw [if_neg h]
theorem rdG_full {g a : Nat} (h : r.e = 0 ∧ a < s.size) (h4 : 4 ≤ np) : rdG s nv N (g + 1) a np S r = (np, S, refR r a) := by simp only [rdG]; rw [if_pos h, if_pos h4]
theorem rdG_go {g a : Nat} (h : r.e = 0 ∧ a < s.size) (h4 : ¬ 4 ≤ np) : rdG s nv N (g + 1) a np S r = rdG s nv N g (rdP (bt s) s.size nv N (s.size + 1) 115 (a + 1) (mkR s 59 a r)).1 (np + 1) (setS S (np + 1) ((a + 1 : Nat) : Int)) (rdP (bt s) s.size nv N (s.size + 1) 115 (a + 1) (mkR s 59 a r)).2 := by
  simp only [rdG]; rw [if_pos h, if_neg h4]
theorem scPr_e0 {c : Nat → Int} {sz f g a : Nat} {C P : List Nat} (h : ¬ a < sz) : scPr c nv N sz f (g + 1) a C P = (a, false, C, P) := by simp only [scPr]; rw [if_neg h]
theorem scPr_e1 {c : Nat → Int} {sz f g a : Nat} {C P : List Nat} (h : a < sz) (h2 : ¬ (c a = 59 ∧ P.length < 4)) : scPr c nv N sz f (g + 1) a C P = (a, true, C, P) := by simp only [scPr]; rw [if_pos h, if_neg h2]
theorem scPr_e2 {c : Nat → Int} {sz f g a k : Nat} {C P D : List Nat} (h : a < sz) (h2 : c a = 59 ∧ P.length < 4) (h3 : scS c nv N f (a + 1) C = (k, true, D)) : scPr c nv N sz f (g + 1) a C P = (k, true, D, P ++ [a + 1]) := by simp only [scPr]; rw [if_pos h, if_pos h2, h3]; simp
theorem scPr_e3 {c : Nat → Int} {sz f g a k : Nat} {C P D : List Nat} (h : a < sz) (h2 : c a = 59 ∧ P.length < 4) (h3 : scS c nv N f (a + 1) C = (k, false, D)) : scPr c nv N sz f (g + 1) a C P = scPr c nv N sz f g k D (P ++ [a + 1]) := by simp only [scPr]; rw [if_pos h, if_pos h2, h3]; simp

/-- The places of the parts, so far. -/
structure Rd (s : ByteArray) (N nv : Nat) (P : List Nat) (np : Nat) (S : Nat → Int) (r : RdS) (a : Nat) : Prop where
  e : r.e = 0
  p : r.p = 0
  np : np = P.length
  st : ∀ k, k < P.length → S (k + 1) = ((P.getD k 0 : Nat) : Int)
  sz : ∀ k, P.length ≤ k → S (k + 1) = 0
  m0 : S 0 = ((nv + 1 : Nat) : Int)
  tb : ∀ k, k < P.length → ∃ j, wfS (bt s) nv N 4 (s.size + 1) (P.getD k 0) = (j, false) ∧ j ≤ a ∧ tbS (bt s) nv N 4 r.T (s.size + 1) (P.getD k 0)
  tm : ∃ j, wfS (bt s) nv N 4 (s.size + 1) (nv + 1) = (j, false) ∧ j ≤ a ∧ tbS (bt s) nv N 4 r.T (s.size + 1) (nv + 1)
  o0 : ∀ j, 0 < P.length → wfS (bt s) nv N 4 (s.size + 1) (nv + 1) = (j, false) → j ≤ P.getD 0 0
  o1 : ∀ k j, k + 1 < P.length → wfS (bt s) nv N 4 (s.size + 1) (P.getD k 0) = (j, false) → j ≤ P.getD (k + 1) 0
  l0 : ∀ j, P.length = 0 → wfS (bt s) nv N 4 (s.size + 1) (nv + 1) = (j, false) → j = a
  l1 : ∀ j, 0 < P.length → wfS (bt s) nv N 4 (s.size + 1) (P.getD (P.length - 1) 0) = (j, false) → j = a

theorem getD_snoc_lt {P : List Nat} {x k : Nat} (h : k < P.length) : (P ++ [x]).getD k 0 = P.getD k 0 := by simp [List.getD, List.getElem?_append_left h]
theorem getD_snoc_last {P : List Nat} {x : Nat} : (P ++ [x]).getD P.length 0 = x := by simp [List.getD]
theorem Rd.next {P : List Nat} {a j : Nat} {D : List Nat} {T' : Nat → Nat → Int} (h : Rd s N nv P np S r a) (ha : a < s.size)
    (hw : wfS (bt s) nv N 4 (s.size + 1) (a + 1) = (j, false)) (ht : tbS (bt s) nv N 4 T' (s.size + 1) (a + 1)) (ho : Out (a + 1) j r.T T') :
    Rd s N nv (P ++ [a + 1]) (np + 1) (setS S (np + 1) ((a + 1 : Nat) : Int)) { r with C := D, T := T' } j := by
  have _ := ha
  have hj := wfS_lt3 _ _ _ hw
  have hnp := h.np
  refine ⟨h.e, h.p, by rw [List.length_append, ← hnp]; rfl, fun k hk => ?_, fun k hk => ?_, ?_, fun k hk => ?_, ?_, fun j' _ hj' => ?_, fun k j' hk hj' => ?_, fun j' h0 => ?_, fun j' _ hj' => ?_⟩
  · simp at hk
    by_cases e : k = P.length
    · subst e
      rw [getD_snoc_last, ← hnp]
      unfold setS; rw [if_pos rfl]
    · rw [getD_snoc_lt (by omega)]
      unfold setS; rw [if_neg (by omega)]
      exact h.st k (by omega)
  · simp at hk
    unfold setS; rw [if_neg (by omega)]
    exact h.sz k (by omega)
  · unfold setS; rw [if_neg (by omega)]; exact h.m0
  · simp at hk
    by_cases e : k = P.length
    · subst e
      rw [getD_snoc_last]
      exact ⟨j, hw, Nat.le_refl _, ht⟩
    · rw [getD_snoc_lt (by omega)]
      obtain ⟨j1, w1, l1, t1⟩ := h.tb k (by omega)
      exact ⟨j1, w1, by omega, tbS_keep _ _ _ w1 (fun y i g1 g2 => ho y i (by omega)) t1⟩
  · obtain ⟨j1, w1, l1, t1⟩ := h.tm
    exact ⟨j1, w1, by omega, tbS_keep _ _ _ w1 (fun y i g1 g2 => ho y i (by omega)) t1⟩
  · by_cases e : P.length = 0
    · have h1 := h.l0 j' e hj'
      have h2 : (P ++ [a + 1]).getD 0 0 = a + 1 := by have := getD_snoc_last (P := P) (x := a + 1); rw [e] at this; exact this
      rw [h2]; omega
    · rw [getD_snoc_lt (by omega)]
      exact h.o0 j' (by omega) hj'
  · simp at hk
    by_cases e : k + 1 = P.length
    · rw [getD_snoc_lt (by omega)] at hj'
      have h1 := h.l1 j' (by omega) (by rw [show P.length - 1 = k by omega]; exact hj')
      rw [e, getD_snoc_last]; omega
    · rw [getD_snoc_lt (by omega)] at hj'
      rw [getD_snoc_lt (by omega)]
      exact h.o1 k j' (by omega) hj'
  · simp at h0
  · rw [List.length_append, show P.length + [a + 1].length - 1 = P.length from rfl, getD_snoc_last, hw] at hj'
    exact (congrArg Prod.fst hj').symm

/-- The procedures are read as the document reads them. -/
theorem rdG_ok : ∀ (g a np : Nat) (S : Nat → Int) (r : RdS) (P : List Nat), Rd s N nv P np S r a → a ≤ s.size → P.length + g = 5 → P.length ≤ 4 →
    (∀ j D Ps, scPr (bt s) nv N s.size (s.size + 1) g a r.C P = (j, false, D, Ps) → ∃ r', rdG s nv N g a np S r = (Ps.length, (rdG s nv N g a np S r).2.1, r') ∧ r'.C = D ∧ Rd s N nv Ps Ps.length (rdG s nv N g a np S r).2.1 r' j) ∧
    (∀ j D Ps, scPr (bt s) nv N s.size (s.size + 1) g a r.C P = (j, true, D, Ps) → (rdG s nv N g a np S r).2.2.e = 4 ∧ (rdG s nv N g a np S r).2.2.p = (j : Int)) := by
  intro g
  induction g with
  | zero => intro a np S r P _ _ h1 h2; omega
  | succ g ih =>
    intro a np S r P h ha h5 h4
    by_cases hlt : a < s.size
    · by_cases hP : P.length < 4
      · have hn4 : ¬ 4 ≤ np := by rw [h.np]; omega
        rw [rdG_go ⟨h.e, hlt⟩ hn4]
        by_cases hc : bt s a = 59
        · rw [(mkR_yes (r := r) hc (by omega)).1]
          obtain ⟨i1, i2⟩ := rdS_ok (c := bt s) (sz := s.size) (nv := nv) (N := N) bt_out (s.size + 1) (a + 1) r h.e hlt (by omega)
          obtain ⟨k, b, D1, hs⟩ : ∃ k b D1, scS (bt s) nv N (s.size + 1) (a + 1) r.C = (k, b, D1) := ⟨_, _, _, rfl⟩
          cases b
          · obtain ⟨T', q1, tb, o⟩ := i1 k D1 hs
            have w1 := wf4_of hs
            have in1 := wfS_in (sz := s.size) bt_out _ _ _ w1
            rw [q1, scPr_e3 hlt ⟨hc, hP⟩ hs]
            exact ih k (np + 1) _ { r with C := D1, T := T' } (P ++ [a + 1]) (h.next hlt w1 tb o) in1 (by simp; omega) (by simp; omega)
          · have hF := i2 k D1 hs
            rw [rdG_stuck (by rw [hF.1]; omega), scPr_e2 hlt ⟨hc, hP⟩ hs]
            refine ⟨fun j D Ps h => by simp at h, fun j D Ps h => ?_⟩
            simp only [Prod.mk.injEq] at h
            obtain ⟨rfl, _⟩ := h
            exact hF
        · have hF := mkR_no (r := r) (a := a) h.e hc
          rw [rdP_stuck (by rw [hF.1]; omega), rdG_stuck (by rw [hF.1]; omega), scPr_e1 hlt (fun x => hc x.1)]
          refine ⟨fun j D Ps h => by simp at h, fun j D Ps h => ?_⟩
          simp only [Prod.mk.injEq] at h
          obtain ⟨rfl, _⟩ := h
          exact hF
      · rw [rdG_full ⟨h.e, hlt⟩ (by rw [h.np]; omega), scPr_e1 hlt (fun x => hP x.2)]
        refine ⟨fun j D Ps h => by simp at h, fun j D Ps h2 => ?_⟩
        simp only [Prod.mk.injEq] at h2
        obtain ⟨rfl, _⟩ := h2
        exact refR_flt (a := a) h.e
    · rw [rdG_end (fun x => hlt x.2), scPr_e0 hlt]
      refine ⟨fun j D Ps h2 => ?_, fun j D Ps h => by simp at h⟩
      simp only [Prod.mk.injEq] at h2
      obtain ⟨rfl, _, rfl, rfl⟩ := h2
      refine ⟨r, by rw [h.np], rfl, ?_⟩
      have := h
      rw [h.np] at this
      exact this

/-- The whole text. -/
theorem rdAll_ok (he : r.e = 0) (hp : r.p = 0) (hC : r.C = []) (hS : ∀ k, S (k + 1) = 0) :
    (∀ j D Ps, nvOf (bt s) N = nv → prA s N = (j, false, D, Ps) → ∃ S' r', rdAll s nv N S r = (Ps.length, S', r') ∧ r'.C = D ∧ Rd s N nv Ps Ps.length S' r' j) ∧
    (∀ j D Ps, nvOf (bt s) N = nv → prA s N = (j, true, D, Ps) → (rdAll s nv N S r).2.2.e = 4 ∧ (rdAll s nv N S r).2.2.p = (j : Int)) := by
  have key : nvOf (bt s) N = nv → (∀ j D Ps, prA s N = (j, false, D, Ps) → ∃ S' r', rdAll s nv N S r = (Ps.length, S', r') ∧ r'.C = D ∧ Rd s N nv Ps Ps.length S' r' j) ∧
    (∀ j D Ps, prA s N = (j, true, D, Ps) → (rdAll s nv N S r).2.2.e = 4 ∧ (rdAll s nv N S r).2.2.p = (j : Int)) := by
    intro hnv
    unfold prA parseAll rdAll
    rw [hnv]
    by_cases hc : bt s nv = 58
    · rw [if_pos hc, (mkR_yes (r := r) hc (by omega)).1]
      have hlt := (mkR_yes (r := r) hc (by omega)).2
      obtain ⟨i1, i2⟩ := rdS_ok (c := bt s) (sz := s.size) (nv := nv) (N := N) bt_out (s.size + 1) (nv + 1) r he hlt (by omega)
      rw [hC] at i1 i2
      obtain ⟨k, b, D1, hs⟩ : ∃ k b D1, scS (bt s) nv N (s.size + 1) (nv + 1) [] = (k, b, D1) := ⟨_, _, _, rfl⟩
      rw [hs]
      cases b
      · obtain ⟨T', q1, tb, o⟩ := i1 k D1 hs
        have w1 := wf4_of hs
        have in1 := wfS_in (sz := s.size) bt_out _ _ _ w1
        simp only [Bool.false_eq_true, if_false]
        rw [q1]
        have hRd : Rd s N nv [] 0 (setS S 0 ((nv + 1 : Nat) : Int)) { r with C := D1, T := T' } k := by
          refine ⟨he, hp, rfl, fun k hk => by simp at hk, fun k _ => by unfold setS; rw [if_neg (by omega)]; exact hS k, by unfold setS; rw [if_pos rfl], fun k hk => by simp at hk, ⟨k, w1, Nat.le_refl _, tb⟩, fun j h => by simp at h, fun k j h => by simp at h, fun j' _ h => ?_, fun j h => by simp at h⟩
          rw [w1] at h
          exact (congrArg Prod.fst h).symm
        obtain ⟨g1, g2⟩ := rdG_ok 5 k 0 _ _ [] hRd in1 rfl (by simp)
        refine ⟨fun j D Ps h => ?_, fun j D Ps h => g2 j D Ps h⟩
        obtain ⟨r', e1, e2, e3⟩ := g1 j D Ps h
        exact ⟨_, r', e1, e2, e3⟩
      · have hF := i2 k D1 hs
        simp only [if_true]
        rw [rdG_stuck (by rw [hF.1]; omega)]
        refine ⟨fun j D Ps h => by simp at h, fun j D Ps h => ?_⟩
        simp only [Prod.mk.injEq] at h
        obtain ⟨rfl, _⟩ := h
        exact hF
    · rw [if_neg hc]
      have hF := mkR_no (r := r) (a := nv) he hc
      rw [rdP_stuck (by rw [hF.1]; omega), rdG_stuck (by rw [hF.1]; omega)]
      refine ⟨fun j D Ps h => by simp at h, fun j D Ps h => ?_⟩
      simp only [Prod.mk.injEq] at h
      obtain ⟨rfl, _⟩ := h
      exact hF
  exact ⟨fun j D Ps h => (key h).1 j D Ps, fun j D Ps h => (key h).2 j D Ps⟩
end

end Go.Proofs.Ytfcflnnleadpkaa

namespace Go.Proofs.Ytfcflnnleadpkaa
open Go.RowKit

def noS : Nat → Int := fun _ => 0
def noTT : Nat → Nat → Int := fun _ _ => 0
def r0 : RdS := ⟨0, 0, [], noTT⟩
/-- A program of which nothing is read. -/
def prg0 (e : Int) (s : ByteArray) (N : Int) : Array Value := prgC e 0 s N 0 0 noS noTT (.slice none 0 0)
theorem info_prg : (Try.prog.info? 87).map (fun i => (i.zero, i.size)) = some (some (.agg (prg0 0 ByteArray.empty 0)), 912) := by kernel_rfl
theorem zero_prg : ∀ w, (zeroValue 87).run Try.prog w = .ok (.agg (prg0 0 ByteArray.empty 0)) w := (zero_of_info info_prg).1
theorem size_prg : (Try.prog.info? 87).map (·.size) = some 912 := (zero_of_info info_prg).2
theorem prg0_size (e : Int) (s : ByteArray) (N : Int) : (prg0 e s N).size = 912 := rowF_size _ _
theorem prg0_all (e : Int) (s : ByteArray) (N : Int) : (prg0 e s N).all (·.oneCell') = true := rowF_all (prgF_one rfl)
theorem prg0_set0 (e e' : Int) (s : ByteArray) (N : Int) : (prg0 e s N).setIfInBounds 0 (.int .i64 e') = prg0 e' s N := prg_set0
theorem prg0_set1 (e : Int) (s : ByteArray) (N : Int) : (prg0 e s N).setIfInBounds 1 (.int .i64 0) = prg0 e s N := prg_set1
theorem prg0_set2 (e : Int) (s s' : ByteArray) (N : Int) : (prg0 e s N).setIfInBounds 2 (.string s') = prg0 e s' N := by
  refine rowF_set rfl (fun k hk hne => ?_)
  unfold prgF; rw [if_neg hne, if_neg hne]
theorem prg0_set3 (e : Int) (s : ByteArray) (N N' : Int) : (prg0 e s N).setIfInBounds 3 (.int .i64 N') = prg0 e s N' := by
  refine rowF_set rfl (fun k hk hne => ?_)
  unfold prgF; rw [if_neg hne, if_neg hne]
theorem ret_prg {fn : Func} {k : Tmp} (h : fn.results = #[.cell k 87]) (tmps : Array Value) (w : World) (g : Nat) (C : Array Value) (hC : C.size = 912)
    (hp : tmps.getD k undef = .pointer (some ⟨g, 0, none⟩)) (hg : w.heap[g]? = some (.cells C 87 (0, 0))) :
    (results fn tmps).run Try.prog w = .ok (.agg C) w :=
  results_cell_row h tmps w g _ _ _ _ hp hg Try.underlying87 rfl (by rw [hC]; exact size_prg)

set_option maxHeartbeats 2000000 in
set_option maxRecDepth 200000 in
theorem rp_long (w : World) (s : ByteArray) (N : Nat) (h : 300 < s.size) :
    Calls Try.prog 56 #[.string s, .int .i64 (N : Int)] w fun e w' => e = .returned (.agg (prg0 1 ByteArray.empty 0)) ∧ Below w.heap.size w w' := by
  have hz := zero_prg
  have z0 := prg0_size 0 ByteArray.empty 0
  have z1 := prg0_size 1 ByteArray.empty 0
  have s0 := prg0_set0 0 1 ByteArray.empty 0
  have s1 := prg0_set1 1 ByteArray.empty 0
  have hgt : (300 : Int) < (s.size : Int) := by omega
  have hst := store_arr size_prg (w.alloc (.cells (prg0 0 ByteArray.empty 0) 87)) w.heap.size _ (prg0 1 ByteArray.empty 0) (prg0_size _ _ _) (prg0_size _ _ _) (prg0_all _ _ _) (heap_alloc_last w _)
  rw [World.setRow_alloc_new] at hst
  go_enter Try.func56, Try.ntmps56
  go_wp2_with fail
  refine bodyPost_ret (v := .agg (prg0 1 ByteArray.empty 0)) (ret_prg Try.results56 _ _ w.heap.size _ (prg0_size _ _ _) rfl (heap_alloc_last w _)) rfl ⟨rfl, ?_⟩
  exact (Below.refl _ _).alloc (Nat.le_refl _) _

/-- What is read of a text that is not too long. -/
def rdFin (s : ByteArray) (N : Nat) : Nat × (Nat → Int) × RdS :=
  ((rdAll s (nvOf (bt s) N) N noS r0).1, (rdAll s (nvOf (bt s) N) N noS r0).2.1, if (rdAll s (nvOf (bt s) N) N noS r0).2.2.e = 0 then msR s (rdAll s (nvOf (bt s) N) N noS r0).1 (rdAll s (nvOf (bt s) N) N noS r0).2.2 else (rdAll s (nvOf (bt s) N) N noS r0).2.2)
def prgA (s : ByteArray) (N : Nat) (v : Value) : Array Value := prgC (rdFin s N).2.2.e (rdFin s N).2.2.p s N (nvOf (bt s) N) (rdFin s N).1 (rdFin s N).2.1 (rdFin s N).2.2.T v
theorem prgA_size (s : ByteArray) (N : Nat) (v : Value) : (prgA s N v).size = 912 := rowF_size _ _
theorem prgA_all (s : ByteArray) (N : Nat) {v : Value} (h : v.oneCell' = true) : (prgA s N v).all (·.oneCell') = true := rowF_all (prgF_one h)
theorem nvOf_size (s : ByteArray) (N : Nat) : nvOf (bt s) N ≤ s.size := by
  unfold nvOf
  have : ∀ f k, k ≤ s.size → cntV (bt s) N f k ≤ s.size := by
    intro f
    induction f with
    | zero => intro k h; exact h
    | succ f ih =>
      intro k h
      simp only [cntV]
      split
      · rename_i hv
        refine ih (k + 1) ?_
        by_cases hk : k < s.size
        · exact hk
        · rw [bt_out (s := s) k (by omega)] at hv
          have h9 : ((0 : Int) == 63 || isDB 0 N) = true := hv
          rw [isDB_no (by omega)] at h9
          cases h9
      · exact h
  exact this 8 0 (Nat.zero_le _)

theorem rdG_len {s : ByteArray} {nv N : Nat} : ∀ (g a np : Nat) (S : Nat → Int) (r : RdS), s.size ≤ 300 → (a ≤ s.size ∨ r.e ≠ 0) → r.C.length ≤ a → a ≤ 302 → (rdG s nv N g a np S r).2.2.C.length ≤ 302 := by
  intro g
  induction g with
  | zero => intro a np S r _ _ h1 h2; show r.C.length ≤ 302; omega
  | succ g ih =>
    intro a np S r hs h0 h1 h2
    by_cases h : r.e = 0 ∧ a < s.size
    · by_cases h4 : 4 ≤ np
      · rw [rdG_full h h4, refR_C]; omega
      · rw [rdG_go h h4]
        have hp := rdP_pos (c := bt s) (sz := s.size) (nv := nv) (N := N) (s.size + 1) 115 (a + 1) (mkR s 59 a r) h.2 (by rw [mkR_C]; omega)
        exact ih _ _ _ _ hs (Or.inl hp.2.1) hp.2.2 (by omega)
    · rw [rdG_end h]; show r.C.length ≤ 302; omega
theorem rdAll_len (s : ByteArray) (N : Nat) (hs : s.size ≤ 300) : (rdAll s (nvOf (bt s) N) N noS r0).2.2.C.length ≤ 302 := by
  have hn := nvOf_size s N
  have hC : (mkR s 58 (nvOf (bt s) N) r0).C.length ≤ nvOf (bt s) N + 1 := by rw [mkR_C]; show 0 ≤ _; omega
  by_cases he : (mkR s 58 (nvOf (bt s) N) r0).e = 0
  · have hlt : nvOf (bt s) N < s.size := by
      by_cases e : nvOf (bt s) N < s.size
      · exact e
      · exact absurd he (mkR_far e)
    have hp := rdP_pos (c := bt s) (sz := s.size) (nv := nvOf (bt s) N) (N := N) (s.size + 1) 115 (nvOf (bt s) N + 1) (mkR s 58 (nvOf (bt s) N) r0) hlt hC
    exact rdG_len _ _ _ _ _ hs (Or.inl hp.2.1) hp.2.2 (by omega)
  · unfold rdAll
    rw [rdP_stuck he]
    exact rdG_len _ _ _ _ _ hs (Or.inr he) hC (by show nvOf (bt s) N + 1 ≤ 302; omega)

set_option maxHeartbeats 4000000 in
set_option maxRecDepth 200000 in
theorem rp_ok (w : World) (s : ByteArray) (N : Nat) (h : s.size ≤ 300) :
    Calls Try.prog 56 #[.string s, .int .i64 (N : Int)] w fun e w' => (∃ a n c, e = .returned (.agg (prgA s N (.slice a n c)))) ∧ Below w.heap.size w w' := by
  have hz := zero_prg
  have z0 := prg0_size 0 ByteArray.empty 0
  have z1 := prg0_size 0 s 0
  have z2 := prg0_size 0 s N
  have s0 := prg0_set2 0 ByteArray.empty s 0
  have s1 := prg0_set3 0 s 0 N
  have hgt : decide ((300 : Int) < (s.size : Int)) = false := by simp; omega
  have hst := store_arr size_prg ((w.alloc (.cells (prg0 0 ByteArray.empty 0) 87)).alloc (.cells (prg0 0 ByteArray.empty 0) 87)) (w.heap.size + 1) _ (prg0 0 s N) (prg0_size _ _ _) (prg0_size _ _ _) (prg0_all _ _ _) (heap_two w _ _).2
  rw [show w.heap.size + 1 = (w.alloc (.cells (prg0 0 ByteArray.empty 0) 87)).heap.size by simp, World.setRow_alloc_new] at hst
  rw [show (w.alloc (.cells (prg0 0 ByteArray.empty 0) 87)).heap.size = w.heap.size + 1 by simp] at hst
  go_enter Try.func56, Try.ntmps56
  go_wp2_with fail
  have HE := hide (show ∀ v, prgA s N v = prgC (rdFin s N).2.2.e (rdFin s N).2.2.p s N (nvOf (bt s) N) (rdFin s N).1 (rdFin s N).2.1 (rdFin s N).2.2.T v from fun _ => rfl)
  have HPR := hide (show PR (w.heap.size + 2) ((w.alloc (.cells (prg0 0 ByteArray.empty 0) 87)).alloc (.cells (prg0 0 s N) 87)) (w.heap.size + 1) s N 0 0 noS r0 (.slice none 0 0) from ⟨(heap_two w _ _).2, World.ownsRow_nil _ _ _ _⟩)
  have HG0 := hide (heap_two w (.cells (prg0 0 ByteArray.empty 0) 87) (.cells (prg0 0 s N) 87)).1
  have HB0 := hide (below_two w (.cells (prg0 0 ByteArray.empty 0) 87) (.cells (prg0 0 s N) 87))
  have hsz0 : ((w.alloc (.cells (prg0 0 ByteArray.empty 0) 87)).alloc (.cells (prg0 0 s N) 87)).heap.size = w.heap.size + 2 := by simp
  have HSZ := hide hsz0
  clear hst hsz0
  generalize (w.alloc (.cells (prg0 0 ByteArray.empty 0) 87)).alloc (.cells (prg0 0 s N) 87) = wa at *
  refine (vars_ok (unhide HPR)).mono ?_
  rintro e w3 ⟨rfl, hp3, hk3⟩
  have HP3 := hide hp3
  have HK3 := hide hk3
  clear hp3 hk3
  go_wp2_with fail
  refine (stmts_ok h (nvOf_size s N) (unhide HP3) (by have := unhide HSZ; have := (unhide HK3).size; omega) (by show 0 ≤ _; omega)).mono ?_
  rintro e w4 ⟨rfl, v4, hp4, hk4, hn4⟩
  have HK4 := hide ((unhide HK3).trans hk4 (Or.inl rfl))
  have HN4 := hide (show v4.ownBlock = (Value.slice none 0 0).ownBlock ∨ ∀ k, v4.ownBlock = some k → wa.heap.size ≤ k from by
    rcases hn4 with e | e
    · exact Or.inl e
    · exact Or.inr (fun k hk => Nat.le_trans (unhide HK3).size (e k hk)))
  have HLEN := hide (rdAll_len s N h)
  have HP4 := hide hp4
  have c0 := hp4.c0
  have HDG := hide (rdAll_digs (s := s) (N := N) (nv := nvOf (bt s) N) (S := noS) (r := r0) (fun k hk => by cases hk))
  have HFIN := hide (show rdFin s N = ((rdAll s (nvOf (bt s) N) N noS r0).1, (rdAll s (nvOf (bt s) N) N noS r0).2.1, if (rdAll s (nvOf (bt s) N) N noS r0).2.2.e = 0 then msR s (rdAll s (nvOf (bt s) N) N noS r0).1 (rdAll s (nvOf (bt s) N) N noS r0).2.2 else (rdAll s (nvOf (bt s) N) N noS r0).2.2) from rfl)
  clear hp4 hk4 hn4
  have fin : ∀ (w5 : World) (R5 : RdS) (np5 : Nat) (S5 : Nat → Int), PR (w.heap.size + 2) w5 (w.heap.size + 1) s N (nvOf (bt s) N) np5 S5 R5 v4 → Kp (w.heap.size + 1) (Value.slice none 0 0).ownBlock wa w5 → rdFin s N = (np5, S5, R5) →
      (∃ a n c, v4 = .slice a n c) ∧ w5.heap[w.heap.size]? = some (.cells (prg0 0 ByteArray.empty 0) 87 (0, 0)) ∧ w5.heap[w.heap.size + 1]? = some (.cells (prgA s N v4) 87 (0, 0)) ∧ Below w.heap.size w w5 := by
    intro w5 R5 np5 S5 hp hk hf
    have hsz := unhide HSZ
    refine ⟨?_, ?_, ?_, ?_⟩
    · obtain ⟨a, c, e⟩ := ownsRow_slice hp.own
      exact ⟨_, _, _, e⟩
    · exact (hk.block w.heap.size (by omega) (by omega) (by simp [Value.ownBlock])).trans (unhide HG0)
    · rw [unhide HE, hf]; exact hp.pr
    · refine (unhide HB0).trans ⟨hk.os, hk.tape, hk.output, hk.size, fun k hk' => hk.block k (by omega) (by omega) (by simp [Value.ownBlock])⟩
  have FIN := hide fin
  clear fin
  generalize rdAll s (nvOf (bt s) N) N noS r0 = RR at *
  obtain ⟨np4, S4, r4⟩ := RR
  by_cases he : r4.e = 0
  · have c0' : w4.cell? ⟨w.heap.size + 1, 0, none⟩ = some (.int .i64 0) := by rw [← he]; exact c0
    clear c0
    go_wp2_with fail
    refine (missing_ok (unhide HP4) (unhide HLEN) (unhide HDG)).mono ?_
    rintro e w5 ⟨rfl, hp5, hk5⟩
    obtain ⟨⟨sa, sn, sc, rfl⟩, g0, g1, hb5⟩ := unhide FIN w5 _ _ _ hp5 ((unhide HK4).trans hk5 (unhide HN4)) (by rw [unhide HFIN]; show (np4, S4, if r4.e = 0 then msR s np4 r4 else r4) = _; rw [if_pos he])
    have hst := store_arr size_prg w5 w.heap.size _ (prgA s N (.slice sa sn sc)) (prg0_size _ _ _) (prgA_size _ _ _) (prgA_all _ _ rfl) g0
    have z9 := prgA_size s N (.slice sa sn sc)
    have HG6 := hide g0
    have HG5 := hide g1
    have HB5 := hide hb5
    clear hp5 hk5 g0 g1 hb5
    go_wp2_with (refine wpList_load_row rfl 87 _ rfl (w.heap.size + 1) rfl 87 _ (0, 0) _ (unhide HG5) Try.underlying87 rfl (by rw [prgA_size]; exact size_prg) ?_)
    refine bodyPost_ret (v := .agg (prgA s N (.slice sa sn sc))) (ret_prg Try.results56 _ _ w.heap.size _ (prgA_size _ _ _) rfl (setRow_heap _ _ _ _ _ _ (unhide HG6))) rfl ⟨⟨sa, sn, sc, rfl⟩, ?_⟩
    exact below_setRow (unhide HB5) (Nat.le_refl _) _
  · have he' : (r4.e == 0) = false := by simpa using he
    obtain ⟨⟨sa, sn, sc, rfl⟩, g0, g1, hb5⟩ := unhide FIN w4 _ _ _ (unhide HP4) (unhide HK4) (by rw [unhide HFIN]; show (np4, S4, if r4.e = 0 then msR s np4 r4 else r4) = _; rw [if_neg he])
    have hst := store_arr size_prg w4 w.heap.size _ (prgA s N (.slice sa sn sc)) (prg0_size _ _ _) (prgA_size _ _ _) (prgA_all _ _ rfl) g0
    have z9 := prgA_size s N (.slice sa sn sc)
    have HG6 := hide g0
    have HG5 := hide g1
    have HB5 := hide hb5
    clear g0 g1 hb5
    go_wp2_with (refine wpList_load_row rfl 87 _ rfl (w.heap.size + 1) rfl 87 _ (0, 0) _ (unhide HG5) Try.underlying87 rfl (by rw [prgA_size]; exact size_prg) ?_)
    refine bodyPost_ret (v := .agg (prgA s N (.slice sa sn sc))) (ret_prg Try.results56 _ _ w.heap.size _ (prgA_size _ _ _) rfl (setRow_heap _ _ _ _ _ _ (unhide HG6))) rfl ⟨⟨sa, sn, sc, rfl⟩, ?_⟩
    exact below_setRow (unhide HB5) (Nat.le_refl _) _

end Go.Proofs.Ytfcflnnleadpkaa
