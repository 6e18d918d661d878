import Derived.Test.YtfcflnnleadpkaaGbJ
import Derived.Deep.LoopGhost
namespace Go.Proofs.Ytfcflnnleadpkaa
open Go.RowKit
variable {B : Nat} {w w' w'' : World} {b : Nat} {s : ByteArray} {N nv np : Nat} {S : Nat → Int} {r r' : RdS} {v v' : Value}

set_option maxHeartbeats 1000000 in
set_option maxRecDepth 100000 in
theorem vars_ok (h : PR B w b s N 0 np S r v) :
    Calls Try.prog 73 #[.pointer (some ⟨b, 0, none⟩)] w fun e w' => e = .returned (.tuple #[]) ∧ PR B w' b s N (nvOf (bt s) N) np S r v ∧ Kp b v.ownBlock w w' := by
  have HH := hide h
  clear h
  go_enter Try.func73, Try.ntmps73
  go_wp2_with fail
  go_loopg [] 8 (fun g wr => ∃ k q : Nat, q = g ∧ k + q = 8 ∧ nvOf (bt s) N = cntV (bt s) N (8 - k) k ∧ PR B wr b s N k np S r v ∧ Kp b v.ownBlock w wr)
  case atStart => exact ⟨0, 8, rfl, rfl, rfl, unhide HH, Kp.refl _ _ _⟩
  case round =>
    obtain ⟨k, q, hq, hkq, hn, hp, hkp⟩ := hrel
    have HQ := hide (And.intro hq hkq)
    have HN := hide hn
    have HP := hide hp
    have HK := hide hkp
    have c2 := hp.c2
    have c3 := hp.c3
    have c4 := hp.c4
    have z4 := hp.fz 4
    have hk8 : k ≤ 8 := by omega
    clear hq hkq hn hp hkp
    by_cases hs : k < s.size
    · have hs' : (k : Int) < (s.size : Int) := by omega
      by_cases h8 : k < 8
      · have hbq := bt_eq s k hs
        have ⟨hb0, hb1⟩ := bt_bd s k
        have HY := hide (fun h => cntV_yes (c := bt s) (N := N) h8 h)
        have HNo := hide (fun h => cntV_no (c := bt s) (N := N) h8 h)
        have HVB := hide (show vb N (bt s k) = (bt s k == 63 || isDB (bt s k) N) from rfl)
        have HP4 := hide (fun q : Nat => ((unhide HP).drewN q).put4 (k + 1))
        have HKD := hide (fun q : Nat => (unhide HK).trans (show Kp b v.ownBlock wr (wr.drewN q) from ⟨rfl, rfl, rfl, Nat.le_refl _, fun _ _ _ _ => rfl⟩) (Or.inl rfl))
        have h8' : (k : Int) < 8 := by omega
        generalize bt s k = cc at *
        by_cases h63 : cc = 63
        · subst h63
          go_wp2_with fail
          go_quiet (fail)
          go_wp2_with fail
          go_quiet (fail)
          go_wp2_with fail
          go_roundg (q - 1)
          case measure => have := unhide HQ; omega
          case rel =>
            have hq := unhide HQ
            refine ⟨k + 1, q - 1, rfl, by omega, by rw [unhide HN]; exact unhide HY (by rw [unhide HVB]; rfl), ?_, ?_⟩
            · exact (unhide HP4 _).1
            · exact (unhide HKD _).trans (unhide HP4 _).2 (Or.inl rfl)
        · have h63' : (cc != 63) = true := by simpa using h63
          cases hd : isDB cc N
          · go_wp2_with fail
            go_quiet (fail)
            go_wp2_with fail
            go_quiet (fail)
            go_wp2_with fail
            refine (isDigit_any _ _ _ hb0 hb1).mono ?_
            rintro e w' ⟨rfl, rfl⟩
            rw [hd]
            go_wp2_with fail
            refine bodyPost_ret (v := .tuple #[]) (results_none Try.results73 _ _ _) rfl ⟨rfl, ?_, unhide HKD _⟩
            have e9 : nvOf (bt s) N = k := by
              rw [unhide HN]
              exact unhide HNo (by rw [unhide HVB, hd]; simpa using h63)
            rw [e9]
            exact (unhide HP).drewN _
          · go_wp2_with fail
            go_quiet (fail)
            go_wp2_with fail
            go_quiet (fail)
            go_wp2_with fail
            refine (isDigit_any _ _ _ hb0 hb1).mono ?_
            rintro e w' ⟨rfl, rfl⟩
            rw [hd]
            go_wp2_with fail
            go_roundg (q - 1)
            case measure => have := unhide HQ; omega
            case rel =>
              have hq := unhide HQ
              refine ⟨k + 1, q - 1, rfl, by omega, by rw [unhide HN]; exact unhide HY (by rw [unhide HVB, hd, Bool.or_true]), ?_, ?_⟩
              · exact (unhide HP4 _).1
              · exact (unhide HKD _).trans (unhide HP4 _).2 (Or.inl rfl)
      · have e9 : nvOf (bt s) N = k := by rw [unhide HN]; exact cntV_end (by omega)
        have HE := hide e9
        have HKD := hide (fun q : Nat => (unhide HK).trans (show Kp b v.ownBlock wr (wr.drewN q) from ⟨rfl, rfl, rfl, Nat.le_refl _, fun _ _ _ _ => rfl⟩) (Or.inl rfl))
        have h8' : decide ((k : Int) < 8) = false := by simp; omega
        clear e9
        go_wp2_with fail
        go_quiet (fail)
        go_wp2_with fail
        go_end0
        exact ⟨rfl, by rw [unhide HE]; exact (unhide HP).drewN _, unhide HKD _⟩
    · have hz : bt s k = 0 := by unfold bt; rw [dif_neg hs]
      have e9 : nvOf (bt s) N = k := by
        rw [unhide HN]
        by_cases h8 : k < 8
        · refine cntV_no h8 ?_
          rw [hz]
          show ((0 : Int) == 63 || isDB 0 N) = false
          rw [isDB_no (by omega)]; rfl
        · exact cntV_end (by omega)
      have HE := hide e9
      have HKD := hide (fun q : Nat => (unhide HK).trans (show Kp b v.ownBlock wr (wr.drewN q) from ⟨rfl, rfl, rfl, Nat.le_refl _, fun _ _ _ _ => rfl⟩) (Or.inl rfl))
      have hs' : decide ((k : Int) < (s.size : Int)) = false := by simp; omega
      clear e9 hz
      go_wp2_with fail
      go_quiet (fail)
      go_wp2_with fail
      go_end0
      exact ⟨rfl, by rw [unhide HE]; exact (unhide HP).drewN _, unhide HKD _⟩

end Go.Proofs.Ytfcflnnleadpkaa

namespace Go.Proofs.Ytfcflnnleadpkaa
open Go.RowKit
variable {B : Nat} {w w' w'' : World} {b : Nat} {s : ByteArray} {N nv np : Nat} {S : Nat → Int} {r r' : RdS} {v v' : Value}

/-- The procedures. -/
def rdG (s : ByteArray) (nv N : Nat) : Nat → Nat → Nat → (Nat → Int) → RdS → Nat × (Nat → Int) × RdS
  | 0, _, np, S, r => (np, S, r)
  | g + 1, a, np, S, r =>
    if r.e = 0 ∧ a < s.size then
      (if 4 ≤ np then (np, S, refR r a)
       else rdG s nv N g (rdP (bt s) s.size nv N (s.size + 1) 115 (a + 1) (mkR s 59 a r)).1 (np + 1) (setS S (np + 1) ((a + 1 : Nat) : Int)) (rdP (bt s) s.size nv N (s.size + 1) 115 (a + 1) (mkR s 59 a r)).2)
    else (np, S, r)
/-- The whole text behind its variables. -/
def rdAll (s : ByteArray) (nv N : Nat) (S : Nat → Int) (r : RdS) : Nat × (Nat → Int) × RdS :=
  rdG s nv N 5 (rdP (bt s) s.size nv N (s.size + 1) 115 (nv + 1) (mkR s 58 nv r)).1 0 (setS S 0 ((nv + 1 : Nat) : Int)) (rdP (bt s) s.size nv N (s.size + 1) 115 (nv + 1) (mkR s 58 nv r)).2
theorem mkR_C {m : Int} {a : Nat} : (mkR s m a r).C = r.C := by unfold mkR; split; rfl; exact refR_C
theorem mkR_far {m : Int} {a : Nat} (h : ¬ a < s.size) : (mkR s m a r).e ≠ 0 := by
  unfold mkR refR
  rw [if_neg (fun x => h x.1)]
  split
  · show (4 : Int) ≠ 0; omega
  · assumption

/-- A statement behind a mark, wherever that is. -/
theorem part_any (hs : s.size ≤ 300) (h : PR B w b s N nv np S r v) {x : Int} {a : Nat} (hx : x = (a : Int)) (hB : B ≤ w.heap.size) (h1 : a ≤ s.size ∨ r.e ≠ 0) (h3 : r.C.length ≤ a) :
    Calls Try.prog 98 #[.pointer (some ⟨b, 0, none⟩), .int .u8 115, .int .i64 x] w fun e w' => e = .returned (.int .i64 ((rdP (bt s) s.size nv N (s.size + 1) 115 a r).1 : Nat)) ∧ PSt B w b s N nv np S v (rdP (bt s) s.size nv N (s.size + 1) 115 a r).2 w' := by
  subst hx
  by_cases he : r.e = 0
  · rcases h1 with h1 | h1
    · exact rdPart hs (s.size + 1) w r v 115 a h (Or.inl rfl) hB h1 (by omega) h3
    · exact absurd he h1
  · rw [rdP_stuck he]
    refine (part_flt h 115 _ he).mono ?_
    rintro e w' ⟨rfl, rfl⟩
    exact ⟨rfl, v, h, Kp.refl _ _ _, Or.inl rfl⟩
theorem part_after {a : Nat} (h1 : a ≤ s.size ∨ r.e ≠ 0) (h3 : r.C.length ≤ a) : ((rdP (bt s) s.size nv N (s.size + 1) 115 a r).1 ≤ s.size ∨ (rdP (bt s) s.size nv N (s.size + 1) 115 a r).2.e ≠ 0) ∧ (rdP (bt s) s.size nv N (s.size + 1) 115 a r).2.C.length ≤ (rdP (bt s) s.size nv N (s.size + 1) 115 a r).1 ∧ a ≤ (rdP (bt s) s.size nv N (s.size + 1) 115 a r).1 := by
  by_cases he : r.e = 0
  · rcases h1 with h1 | h1
    · have := rdP_pos (c := bt s) (sz := s.size) (nv := nv) (N := N) (s.size + 1) 115 a r h1 h3
      exact ⟨Or.inl this.2.1, this.2.2, this.1⟩
    · exact absurd he h1
  · rw [rdP_stuck he]; exact ⟨Or.inr he, h3, Nat.le_refl _⟩

/-- Between two procedures. -/
structure LG (B : Nat) (w : World) (b : Nat) (s : ByteArray) (N nv : Nat) (v : Value) (R : Nat × (Nat → Int) × RdS) (g a : Nat) (wr : World) : Prop where
  ex : ∃ (np : Nat) (S : Nat → Int) (r : RdS) (v' : Value), np + g = 5 ∧ np ≤ 4 ∧ PR B wr b s N nv np S r v' ∧ Kp b v.ownBlock w wr ∧ NewOr w v v' ∧ (a ≤ s.size ∨ r.e ≠ 0) ∧ r.C.length ≤ a ∧ a ≤ 302 ∧ R = rdG s nv N g a np S r

set_option maxHeartbeats 2000000 in
set_option maxRecDepth 100000 in
theorem stmts_ok (hs : s.size ≤ 300) (hnv : nv ≤ s.size) (h : PR B w b s N nv 0 S r v) (hB : B ≤ w.heap.size) (hC : r.C.length ≤ nv) :
    Calls Try.prog 74 #[.pointer (some ⟨b, 0, none⟩)] w fun e w' => e = .returned (.tuple #[]) ∧ ∃ v', PR B w' b s N nv (rdAll s nv N S r).1 (rdAll s nv N S r).2.1 (rdAll s nv N S r).2.2 v' ∧ Kp b v.ownBlock w w' ∧ NewOr w v v' := by
  have HR := hide (show rdAll s nv N S r = rdG s nv N 5 (rdP (bt s) s.size nv N (s.size + 1) 115 (nv + 1) (mkR s 58 nv r)).1 0 (setS S 0 ((nv + 1 : Nat) : Int)) (rdP (bt s) s.size nv N (s.size + 1) 115 (nv + 1) (mkR s 58 nv r)).2 from rfl)
  generalize rdAll s nv N S r = RR at *
  have c4 := h.c4
  have HH := hide h
  clear h
  have HX := hide (show nv + 1 ≤ s.size ∨ (mkR s 58 nv r).e ≠ 0 by
    by_cases e : nv < s.size
    · exact Or.inl e
    · exact Or.inr (mkR_far e))
  have HC1 := hide (show (mkR s 58 nv r).C.length ≤ nv + 1 by rw [mkR_C]; omega)
  go_enter Try.func74, Try.ntmps74
  go_wp2_with fail
  refine (mark_any (unhide HH) 58 rfl (by omega)).mono ?_
  rintro e w1 ⟨rfl, hp1, hk1⟩
  have c6 := hp1.cS (k := 0) (by omega)
  simp only [Nat.add_zero] at c6
  have z6 := hp1.fz 6
  have HP1 := hide (hp1.putS (k := 0) (by omega) ((nv + 1 : Nat) : Int) 0)
  have HK1 := hide hk1
  clear hp1 hk1 c4
  have hB1 : B ≤ (w1.setCell ⟨b, 6, none⟩ (.int .i64 ((nv : Int) + 1))).heap.size := by rw [World.size_setCell]; have := (unhide HK1).size; omega
  go_wp2_with fail
  refine (part_any hs (unhide HP1).1 (a := nv + 1) (by omega) hB1 (unhide HX) (unhide HC1)).mono ?_
  rintro e w2 ⟨rfl, v2, hp2, hk2, hn2⟩
  have HL := hide (show LG B w b s N nv v RR 5 (rdP (bt s) s.size nv N (s.size + 1) 115 (nv + 1) (mkR s 58 nv r)).1 w2 by
    obtain ⟨a1, a2, a3⟩ := part_after (N := N) (nv := nv) (unhide HX) (unhide HC1)
    have hst := PSt.step (unhide HK1) (Or.inl rfl) (PSt.step (unhide HP1).2 (Or.inl rfl) ⟨v2, hp2, hk2, hn2⟩)
    obtain ⟨v3, p3, k3, n3⟩ := hst
    refine ⟨0, _, _, v3, rfl, by omega, p3, k3, n3, a1, a2, ?_, unhide HR⟩
    by_cases he : (mkR s 58 nv r).e = 0
    · rcases a1 with a1 | a1
      · omega
      · have h9 := rdP_pos (c := bt s) (sz := s.size) (nv := nv) (N := N) (s.size + 1) 115 (nv + 1) (mkR s 58 nv r) (by
          rcases unhide HX with h | h
          · exact h
          · exact absurd he h) (unhide HC1)
        omega
    · rw [rdP_stuck he]; show nv + 1 ≤ 302; omega)
  clear hp2 hk2 hn2 HR HX HC1 HP1 HK1 c6 z6
  generalize (rdP (bt s) s.size nv N (s.size + 1) 115 (nv + 1) (mkR s 58 nv r)).1 = a0 at *
  go_wp2_with fail
  go_loopg [2] 5 (fun g d wr => ∃ a q : Nat, q = g ∧ d = .int .i64 (a : Int) ∧ LG B w b s N nv v RR q a wr)
  case atStart => exact ⟨a0, 5, rfl, rfl, unhide HL⟩
  case round =>
    obtain ⟨a, q, hq, rfl, ⟨np, T, r1, v1, hnp, hnp4, hp, hkp, hno, ha1, hC1, ha2, hR⟩⟩ := hrel
    obtain ⟨q1, rfl⟩ : ∃ q1, q = q1 + 1 := ⟨q - 1, by omega⟩
    have HQ := hide hq
    have HNP := hide hnp
    have HP := hide hp
    have HK := hide hkp
    have HNO := hide hno
    have HR := hide hR
    have k0 := hp.c0
    have k2 := hp.c2
    have k5 := hp.c5
    have z5 := hp.fz 5
    clear hq hkp hno hR hnp
    by_cases he : r1.e = 0
    · rw [he] at k0
      by_cases hlt : a < s.size
      · have hlt' : (a : Int) < (s.size : Int) := by omega
        by_cases h4 : 4 ≤ np
        · have h4' : (4 : Int) ≤ (np : Int) := by omega
          have HE := hide (show RR = (np, T, refR r1 a) by
            rw [unhide HR]
            simp only [rdG]
            rw [if_pos ⟨he, hlt⟩, if_pos h4])
          clear hp
          go_wp2_with fail
          refine (refuse_any (unhide HP) a).mono ?_
          rintro e w2 ⟨rfl, hp2, hk2⟩
          have HP2 := hide hp2
          have HK2 := hide ((unhide HK).trans hk2 (unhide HNO))
          clear hp2 hk2
          go_wp2_with fail
          refine bodyPost_ret (v := .tuple #[]) (results_none Try.results74 _ _ _) rfl ⟨rfl, v1, ?_, unhide HK2, unhide HNO⟩
          rw [unhide HE]; exact unhide HP2
        · have h4' : decide ((4 : Int) ≤ (np : Int)) = false := by simp; omega
          have HE := hide (show RR = rdG s nv N q1 (rdP (bt s) s.size nv N (s.size + 1) 115 (a + 1) (mkR s 59 a r1)).1 (np + 1) (setS T (np + 1) ((a + 1 : Nat) : Int)) (rdP (bt s) s.size nv N (s.size + 1) 115 (a + 1) (mkR s 59 a r1)).2 by
            rw [unhide HR]
            simp only [rdG]
            rw [if_pos ⟨he, hlt⟩, if_neg h4])
          clear hp
          go_wp2_with fail
          refine (mark_any (unhide HP) 59 rfl (by omega)).mono ?_
          rintro e w2 ⟨rfl, hp2, hk2⟩
          have HP2 := hide hp2
          have HK2 := hide ((unhide HK).trans hk2 (unhide HNO))
          have hp3 := hp2.put5 (np + 1)
          have c5 := hp2.c5
          have y5 := hp2.fz 5
          clear hk2 k0 k2 k5 z5
          have hn5 : (np : Int) + 1 < 5 := by omega
          have HP3 := hide hp3
          clear hp2 hp3
          go_wp2_with fail
          clear c5 y5
          generalize hW : w2.setCell ⟨b, 5, none⟩ (.int .i64 ((np : Int) + 1)) = w3 at *
          have hp3 : PR B w3 b s N nv (np + 1) T (mkR s 59 a r1) v1 ∧ Kp b v1.ownBlock w2 w3 := by rw [← hW]; exact unhide HP3
          clear hW HP3
          have c5 : w3.cell? ⟨b, 5, none⟩ = some (.int .i64 ((np : Int) + 1)) := hp3.1.c5
          have cS := hp3.1.cS (k := np + 1) (by omega)
          have zS := hp3.1.fz (6 + (np + 1))
          have HP4 := hide (fun q : Nat => hp3.1.putS (k := np + 1) (by omega) ((a + 1 : Nat) : Int) q)
          have HK3 := hide ((unhide HK2).trans hp3.2 (unhide HNO))
          have hsz := (unhide HK3).size
          clear hp3
          have HX := hide (show a + 1 ≤ s.size ∨ (mkR s 59 a r1).e ≠ 0 from Or.inl hlt)
          have HC1 := hide (show (mkR s 59 a r1).C.length ≤ a + 1 by rw [mkR_C]; omega)
          go_region
          all_goals
            go_wp2_with fail
            refine (part_any hs (unhide HP4 1).1 (a := a + 1) (by omega) (by show B ≤ (w3.setCell _ _).heap.size; rw [World.size_setCell]; omega) (unhide HX) (unhide HC1)).mono ?_
            rintro e w4 ⟨rfl, v4, hp4, hk4, hn4⟩
            have HL := hide (show LG B w b s N nv v RR q1 (rdP (bt s) s.size nv N (s.size + 1) 115 (a + 1) (mkR s 59 a r1)).1 w4 by
              obtain ⟨a1, a2, a3⟩ := part_after (N := N) (nv := nv) (unhide HX) (unhide HC1)
              obtain ⟨v3, p3, k3, n3⟩ := PSt.step (unhide HK3) (unhide HNO) (PSt.step (unhide HP4 1).2 (Or.inl rfl) ⟨v4, hp4, hk4, hn4⟩)
              have h9 := rdP_pos (c := bt s) (sz := s.size) (nv := nv) (N := N) (s.size + 1) 115 (a + 1) (mkR s 59 a r1) hlt (unhide HC1)
              exact ⟨np + 1, _, _, v3, by have := unhide HNP; omega, by omega, p3, k3, n3, a1, a2, by omega, unhide HE⟩)
            clear hp4 hk4 hn4
            generalize (rdP (bt s) s.size nv N (s.size + 1) 115 (a + 1) (mkR s 59 a r1)).1 = a9 at *
            go_wp2_with fail
            go_roundg q1
            case measure => have := unhide HQ; omega
            case rel => exact ⟨a9, q1, rfl, rfl, unhide HL⟩
      · have hlt' : decide ((a : Int) < (s.size : Int)) = false := by simp; omega
        have HE := hide (show RR = (np, T, r1) by
          rw [unhide HR]
          simp only [rdG]
          rw [if_neg (fun x => hlt x.2)])
        clear hp
        go_wp2_with fail
        go_end0
        exact ⟨rfl, v1, by rw [unhide HE]; exact unhide HP, unhide HK, unhide HNO⟩
    · have he' : (r1.e == 0) = false := by simpa using he
      have HE := hide (show RR = (np, T, r1) by
        rw [unhide HR]
        simp only [rdG]
        rw [if_neg (fun x => he x.1)])
      clear hp
      go_wp2_with fail
      go_end0
      exact ⟨rfl, v1, by rw [unhide HE]; exact unhide HP, unhide HK, unhide HNO⟩

end Go.Proofs.Ytfcflnnleadpkaa
