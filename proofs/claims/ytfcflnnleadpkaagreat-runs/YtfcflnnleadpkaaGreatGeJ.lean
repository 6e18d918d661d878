import Derived.Test.YtfcflnnleadpkaaGreatGbJ
import Derived.Deep.LoopGhost
import Derived.Test.YtfcflnnleadpkaaGreatSjJ
import Derived.Test.YtfcflnnleadpkaaGreatFdJ
namespace Go.Proofs.YtfcflnnleadpkaaGreat
open Go.RowKit
variable {B : Nat} {w w' w'' : World} {b : Nat} {s : ByteArray} {N nv np : Nat} {S : Nat → Int} {r r' : RdS} {v v' : Value}

set_option maxHeartbeats 1000000 in
set_option maxRecDepth 100000 in
theorem vars_ok (h : PR B w b s N 0 np S r v) :
    Calls Tryz.prog 45 #[.pointer (some ⟨b, 0, none⟩)] w fun e w' => e = .returned (.tuple #[]) ∧ PR B w' b s N (nvOf (bt s) N) np S r v ∧ Kp b v.ownBlock w w' := by
  have HH := hide h
  clear h
  go_enter Tryz.func45, Tryz.ntmps45
  go_wp2_with fail
  go_loopg [] 8 (fun g wr => ∃ k q : Nat, q = g ∧ k + q = 8 ∧ nvOf (bt s) N = cntV (bt s) N (8 - k) k ∧ PR B wr b s N k np S r v ∧ Kp b v.ownBlock w wr)
  case atStart => exact ⟨0, 8, rfl, rfl, rfl, unhide HH, Kp.refl _ _ _⟩
  case round =>
    obtain ⟨k, q, hq, hkq, hn, hp, hkp⟩ := hrel
    have HQ := hide (And.intro hq hkq)
    have HN := hide hn
    have HP := hide hp
    have HK := hide hkp
    have c2 := hp.c2
    have c3 := hp.c3
    have c4 := hp.c4
    have z4 := hp.fz 4
    have hk8 : k ≤ 8 := by omega
    clear hq hkq hn hp hkp
    by_cases hs : k < s.size
    · have hs' : (k : Int) < (s.size : Int) := by omega
      by_cases h8 : k < 8
      · have hbq := bt_eq s k hs
        have ⟨hb0, hb1⟩ := bt_bd s k
        have HY := hide (fun h => cntV_yes (c := bt s) (N := N) h8 h)
        have HNo := hide (fun h => cntV_no (c := bt s) (N := N) h8 h)
        have HVB := hide (show vb N (bt s k) = (bt s k == 63 || isDB (bt s k) N) from rfl)
        have HP4 := hide (fun q : Nat => ((unhide HP).drewN q).put4 (k + 1))
        have HKD := hide (fun q : Nat => (unhide HK).trans (show Kp b v.ownBlock wr (wr.drewN q) from ⟨rfl, rfl, rfl, Nat.le_refl _, fun _ _ _ _ => rfl⟩) (Or.inl rfl))
        have h8' : (k : Int) < 8 := by omega
        generalize bt s k = cc at *
        by_cases h63 : cc = 63
        · subst h63
          go_wp2_with fail
          go_quiet (fail)
          go_wp2_with fail
          go_quiet (fail)
          go_wp2_with fail
          go_roundg (q - 1)
          case measure => have := unhide HQ; omega
          case rel =>
            have hq := unhide HQ
            refine ⟨k + 1, q - 1, rfl, by omega, by rw [unhide HN]; exact unhide HY (by rw [unhide HVB]; rfl), ?_, ?_⟩
            · exact (unhide HP4 _).1
            · exact (unhide HKD _).trans (unhide HP4 _).2 (Or.inl rfl)
        · have h63' : (cc != 63) = true := by simpa using h63
          cases hd : isDB cc N
          · go_wp2_with fail
            go_quiet (fail)
            go_wp2_with fail
            go_quiet (fail)
            go_wp2_with fail
            refine (isDigit_any _ _ _ hb0 hb1).mono ?_
            rintro e w' ⟨rfl, rfl⟩
            rw [hd]
            go_wp2_with fail
            refine bodyPost_ret (v := .tuple #[]) (results_none Tryz.results45 _ _ _) rfl ⟨rfl, ?_, unhide HKD _⟩
            have e9 : nvOf (bt s) N = k := by
              rw [unhide HN]
              exact unhide HNo (by rw [unhide HVB, hd]; simpa using h63)
            rw [e9]
            exact (unhide HP).drewN _
          · go_wp2_with fail
            go_quiet (fail)
            go_wp2_with fail
            go_quiet (fail)
            go_wp2_with fail
            refine (isDigit_any _ _ _ hb0 hb1).mono ?_
            rintro e w' ⟨rfl, rfl⟩
            rw [hd]
            go_wp2_with fail
            go_roundg (q - 1)
            case measure => have := unhide HQ; omega
            case rel =>
              have hq := unhide HQ
              refine ⟨k + 1, q - 1, rfl, by omega, by rw [unhide HN]; exact unhide HY (by rw [unhide HVB, hd, Bool.or_true]), ?_, ?_⟩
              · exact (unhide HP4 _).1
              · exact (unhide HKD _).trans (unhide HP4 _).2 (Or.inl rfl)
      · have e9 : nvOf (bt s) N = k := by rw [unhide HN]; exact cntV_end (by omega)
        have HE := hide e9
        have HKD := hide (fun q : Nat => (unhide HK).trans (show Kp b v.ownBlock wr (wr.drewN q) from ⟨rfl, rfl, rfl, Nat.le_refl _, fun _ _ _ _ => rfl⟩) (Or.inl rfl))
        have h8' : decide ((k : Int) < 8) = false := by simp; omega
        clear e9
        go_wp2_with fail
        go_quiet (fail)
        go_wp2_with fail
        go_end0
        exact ⟨rfl, by rw [unhide HE]; exact (unhide HP).drewN _, unhide HKD _⟩
    · have hz : bt s k = 0 := by unfold bt; rw [dif_neg hs]
      have e9 : nvOf (bt s) N = k := by
        rw [unhide HN]
        by_cases h8 : k < 8
        · refine cntV_no h8 ?_
          rw [hz]
          show ((0 : Int) == 63 || isDB 0 N) = false
          rw [isDB_no (by omega)]; rfl
        · exact cntV_end (by omega)
      have HE := hide e9
      have HKD := hide (fun q : Nat => (unhide HK).trans (show Kp b v.ownBlock wr (wr.drewN q) from ⟨rfl, rfl, rfl, Nat.le_refl _, fun _ _ _ _ => rfl⟩) (Or.inl rfl))
      have hs' : decide ((k : Int) < (s.size : Int)) = false := by simp; omega
      clear e9 hz
      go_wp2_with fail
      go_quiet (fail)
      go_wp2_with fail
      go_end0
      exact ⟨rfl, by rw [unhide HE]; exact (unhide HP).drewN _, unhide HKD _⟩

end Go.Proofs.YtfcflnnleadpkaaGreat

namespace Go.Proofs.YtfcflnnleadpkaaGreat
open Go.RowKit
variable {B : Nat} {w w' w'' : World} {b : Nat} {s : ByteArray} {N nv np : Nat} {S : Nat → Int} {r r' : RdS} {v v' : Value}

/-- The procedures. -/
def rdG (s : ByteArray) (nv N : Nat) : Nat → Nat → Nat → (Nat → Int) → RdS → Nat × (Nat → Int) × RdS
  | 0, _, np, S, r => (np, S, r)
  | g + 1, a, np, S, r =>
    if r.e = 0 ∧ a < s.size then
      (if 4 ≤ np then (np, S, refR r a)
       else rdG s nv N g (rdP (bt s) s.size nv N (s.size + 1) 115 (a + 1) (mkR s 59 a r)).1 (np + 1) (setS S (np + 1) ((a + 1 : Nat) : Int)) (rdP (bt s) s.size nv N (s.size + 1) 115 (a + 1) (mkR s 59 a r)).2)
    else (np, S, r)
/-- The whole text behind its variables. -/
def rdAll (s : ByteArray) (nv N : Nat) (S : Nat → Int) (r : RdS) : Nat × (Nat → Int) × RdS :=
  rdG s nv N 5 (rdP (bt s) s.size nv N (s.size + 1) 115 (nv + 1) (mkR s 58 nv r)).1 0 (setS S 0 ((nv + 1 : Nat) : Int)) (rdP (bt s) s.size nv N (s.size + 1) 115 (nv + 1) (mkR s 58 nv r)).2
theorem mkR_C {m : Int} {a : Nat} : (mkR s m a r).C = r.C := by unfold mkR; split; rfl; exact refR_C
theorem mkR_far {m : Int} {a : Nat} (h : ¬ a < s.size) : (mkR s m a r).e ≠ 0 := by
  unfold mkR refR
  rw [if_neg (fun x => h x.1)]
  split
  · show (4 : Int) ≠ 0; omega
  · assumption

/-- A statement behind a mark, wherever that is. -/
theorem part_any (hs : s.size ≤ 300) (h : PR B w b s N nv np S r v) {x : Int} {a : Nat} (hx : x = (a : Int)) (hB : B ≤ w.heap.size) (h1 : a ≤ s.size ∨ r.e ≠ 0) (h3 : r.C.length ≤ a) :
    Calls Tryz.prog 80 #[.pointer (some ⟨b, 0, none⟩), .int .u8 115, .int .i64 x] w fun e w' => e = .returned (.int .i64 ((rdP (bt s) s.size nv N (s.size + 1) 115 a r).1 : Nat)) ∧ PSt B w b s N nv np S v (rdP (bt s) s.size nv N (s.size + 1) 115 a r).2 w' := by
  subst hx
  by_cases he : r.e = 0
  · rcases h1 with h1 | h1
    · exact rdPart hs (s.size + 1) w r v 115 a h (Or.inl rfl) hB h1 (by omega) h3
    · exact absurd he h1
  · rw [rdP_stuck he]
    refine (part_flt h 115 _ he).mono ?_
    rintro e w' ⟨rfl, rfl⟩
    exact ⟨rfl, v, h, Kp.refl _ _ _, Or.inl rfl⟩
theorem part_after {a : Nat} (h1 : a ≤ s.size ∨ r.e ≠ 0) (h3 : r.C.length ≤ a) : ((rdP (bt s) s.size nv N (s.size + 1) 115 a r).1 ≤ s.size ∨ (rdP (bt s) s.size nv N (s.size + 1) 115 a r).2.e ≠ 0) ∧ (rdP (bt s) s.size nv N (s.size + 1) 115 a r).2.C.length ≤ (rdP (bt s) s.size nv N (s.size + 1) 115 a r).1 ∧ a ≤ (rdP (bt s) s.size nv N (s.size + 1) 115 a r).1 := by
  by_cases he : r.e = 0
  · rcases h1 with h1 | h1
    · have := rdP_pos (c := bt s) (sz := s.size) (nv := nv) (N := N) (s.size + 1) 115 a r h1 h3
      exact ⟨Or.inl this.2.1, this.2.2, this.1⟩
    · exact absurd he h1
  · rw [rdP_stuck he]; exact ⟨Or.inr he, h3, Nat.le_refl _⟩

/-- Between two procedures. -/
structure LG (B : Nat) (w : World) (b : Nat) (s : ByteArray) (N nv : Nat) (v : Value) (R : Nat × (Nat → Int) × RdS) (g a : Nat) (wr : World) : Prop where
  ex : ∃ (np : Nat) (S : Nat → Int) (r : RdS) (v' : Value), np + g = 5 ∧ np ≤ 4 ∧ PR B wr b s N nv np S r v' ∧ Kp b v.ownBlock w wr ∧ NewOr w v v' ∧ (a ≤ s.size ∨ r.e ≠ 0) ∧ r.C.length ≤ a ∧ a ≤ 302 ∧ R = rdG s nv N g a np S r

set_option maxHeartbeats 2000000 in
set_option maxRecDepth 100000 in
theorem stmts_ok (hs : s.size ≤ 300) (hnv : nv ≤ s.size) (h : PR B w b s N nv 0 S r v) (hB : B ≤ w.heap.size) (hC : r.C.length ≤ nv) :
    Calls Tryz.prog 46 #[.pointer (some ⟨b, 0, none⟩)] w fun e w' => e = .returned (.tuple #[]) ∧ ∃ v', PR B w' b s N nv (rdAll s nv N S r).1 (rdAll s nv N S r).2.1 (rdAll s nv N S r).2.2 v' ∧ Kp b v.ownBlock w w' ∧ NewOr w v v' := by
  have HR := hide (show rdAll s nv N S r = rdG s nv N 5 (rdP (bt s) s.size nv N (s.size + 1) 115 (nv + 1) (mkR s 58 nv r)).1 0 (setS S 0 ((nv + 1 : Nat) : Int)) (rdP (bt s) s.size nv N (s.size + 1) 115 (nv + 1) (mkR s 58 nv r)).2 from rfl)
  generalize rdAll s nv N S r = RR at *
  have c4 := h.c4
  have HH := hide h
  clear h
  have HX := hide (show nv + 1 ≤ s.size ∨ (mkR s 58 nv r).e ≠ 0 by
    by_cases e : nv < s.size
    · exact Or.inl e
    · exact Or.inr (mkR_far e))
  have HC1 := hide (show (mkR s 58 nv r).C.length ≤ nv + 1 by rw [mkR_C]; omega)
  go_enter Tryz.func46, Tryz.ntmps46
  go_wp2_with fail
  refine (mark_any (unhide HH) 58 rfl (by omega)).mono ?_
  rintro e w1 ⟨rfl, hp1, hk1⟩
  have c6 := hp1.cS (k := 0) (by omega)
  simp only [Nat.add_zero] at c6
  have z6 := hp1.fz 6
  have HP1 := hide (hp1.putS (k := 0) (by omega) ((nv + 1 : Nat) : Int) 0)
  have HK1 := hide hk1
  clear hp1 hk1 c4
  have hB1 : B ≤ (w1.setCell ⟨b, 6, none⟩ (.int .i64 ((nv : Int) + 1))).heap.size := by rw [World.size_setCell]; have := (unhide HK1).size; omega
  go_wp2_with fail
  refine (part_any hs (unhide HP1).1 (a := nv + 1) (by omega) hB1 (unhide HX) (unhide HC1)).mono ?_
  rintro e w2 ⟨rfl, v2, hp2, hk2, hn2⟩
  have HL := hide (show LG B w b s N nv v RR 5 (rdP (bt s) s.size nv N (s.size + 1) 115 (nv + 1) (mkR s 58 nv r)).1 w2 by
    obtain ⟨a1, a2, a3⟩ := part_after (N := N) (nv := nv) (unhide HX) (unhide HC1)
    have hst := PSt.step (unhide HK1) (Or.inl rfl) (PSt.step (unhide HP1).2 (Or.inl rfl) ⟨v2, hp2, hk2, hn2⟩)
    obtain ⟨v3, p3, k3, n3⟩ := hst
    refine ⟨0, _, _, v3, rfl, by omega, p3, k3, n3, a1, a2, ?_, unhide HR⟩
    by_cases he : (mkR s 58 nv r).e = 0
    · rcases a1 with a1 | a1
      · omega
      · have h9 := rdP_pos (c := bt s) (sz := s.size) (nv := nv) (N := N) (s.size + 1) 115 (nv + 1) (mkR s 58 nv r) (by
          rcases unhide HX with h | h
          · exact h
          · exact absurd he h) (unhide HC1)
        omega
    · rw [rdP_stuck he]; show nv + 1 ≤ 302; omega)
  clear hp2 hk2 hn2 HR HX HC1 HP1 HK1 c6 z6
  generalize (rdP (bt s) s.size nv N (s.size + 1) 115 (nv + 1) (mkR s 58 nv r)).1 = a0 at *
  go_wp2_with fail
  go_loopg [2] 5 (fun g d wr => ∃ a q : Nat, q = g ∧ d = .int .i64 (a : Int) ∧ LG B w b s N nv v RR q a wr)
  case atStart => exact ⟨a0, 5, rfl, rfl, unhide HL⟩
  case round =>
    obtain ⟨a, q, hq, rfl, ⟨np, T, r1, v1, hnp, hnp4, hp, hkp, hno, ha1, hC1, ha2, hR⟩⟩ := hrel
    obtain ⟨q1, rfl⟩ : ∃ q1, q = q1 + 1 := ⟨q - 1, by omega⟩
    have HQ := hide hq
    have HNP := hide hnp
    have HP := hide hp
    have HK := hide hkp
    have HNO := hide hno
    have HR := hide hR
    have k0 := hp.c0
    have k2 := hp.c2
    have k5 := hp.c5
    have z5 := hp.fz 5
    clear hq hkp hno hR hnp
    by_cases he : r1.e = 0
    · rw [he] at k0
      by_cases hlt : a < s.size
      · have hlt' : (a : Int) < (s.size : Int) := by omega
        by_cases h4 : 4 ≤ np
        · have h4' : (4 : Int) ≤ (np : Int) := by omega
          have HE := hide (show RR = (np, T, refR r1 a) by
            rw [unhide HR]
            simp only [rdG]
            rw [if_pos ⟨he, hlt⟩, if_pos h4])
          clear hp
          go_wp2_with fail
          refine (refuse_any (unhide HP) a).mono ?_
          rintro e w2 ⟨rfl, hp2, hk2⟩
          have HP2 := hide hp2
          have HK2 := hide ((unhide HK).trans hk2 (unhide HNO))
          clear hp2 hk2
          go_wp2_with fail
          refine bodyPost_ret (v := .tuple #[]) (results_none Tryz.results46 _ _ _) rfl ⟨rfl, v1, ?_, unhide HK2, unhide HNO⟩
          rw [unhide HE]; exact unhide HP2
        · have h4' : decide ((4 : Int) ≤ (np : Int)) = false := by simp; omega
          have HE := hide (show RR = rdG s nv N q1 (rdP (bt s) s.size nv N (s.size + 1) 115 (a + 1) (mkR s 59 a r1)).1 (np + 1) (setS T (np + 1) ((a + 1 : Nat) : Int)) (rdP (bt s) s.size nv N (s.size + 1) 115 (a + 1) (mkR s 59 a r1)).2 by
            rw [unhide HR]
            simp only [rdG]
            rw [if_pos ⟨he, hlt⟩, if_neg h4])
          clear hp
          go_wp2_with fail
          refine (mark_any (unhide HP) 59 rfl (by omega)).mono ?_
          rintro e w2 ⟨rfl, hp2, hk2⟩
          have HP2 := hide hp2
          have HK2 := hide ((unhide HK).trans hk2 (unhide HNO))
          have hp3 := hp2.put5 (np + 1)
          have c5 := hp2.c5
          have y5 := hp2.fz 5
          clear hk2 k0 k2 k5 z5
          have hn5 : (np : Int) + 1 < 5 := by omega
          have HP3 := hide hp3
          clear hp2 hp3
          go_wp2_with fail
          clear c5 y5
          generalize hW : w2.setCell ⟨b, 5, none⟩ (.int .i64 ((np : Int) + 1)) = w3 at *
          have hp3 : PR B w3 b s N nv (np + 1) T (mkR s 59 a r1) v1 ∧ Kp b v1.ownBlock w2 w3 := by rw [← hW]; exact unhide HP3
          clear hW HP3
          have c5 : w3.cell? ⟨b, 5, none⟩ = some (.int .i64 ((np : Int) + 1)) := hp3.1.c5
          have cS := hp3.1.cS (k := np + 1) (by omega)
          have zS := hp3.1.fz (6 + (np + 1))
          have HP4 := hide (fun q : Nat => hp3.1.putS (k := np + 1) (by omega) ((a + 1 : Nat) : Int) q)
          have HK3 := hide ((unhide HK2).trans hp3.2 (unhide HNO))
          have hsz := (unhide HK3).size
          clear hp3
          have HX := hide (show a + 1 ≤ s.size ∨ (mkR s 59 a r1).e ≠ 0 from Or.inl hlt)
          have HC1 := hide (show (mkR s 59 a r1).C.length ≤ a + 1 by rw [mkR_C]; omega)
          go_region
          all_goals
            go_wp2_with fail
            refine (part_any hs (unhide HP4 1).1 (a := a + 1) (by omega) (by show B ≤ (w3.setCell _ _).heap.size; rw [World.size_setCell]; omega) (unhide HX) (unhide HC1)).mono ?_
            rintro e w4 ⟨rfl, v4, hp4, hk4, hn4⟩
            have HL := hide (show LG B w b s N nv v RR q1 (rdP (bt s) s.size nv N (s.size + 1) 115 (a + 1) (mkR s 59 a r1)).1 w4 by
              obtain ⟨a1, a2, a3⟩ := part_after (N := N) (nv := nv) (unhide HX) (unhide HC1)
              obtain ⟨v3, p3, k3, n3⟩ := PSt.step (unhide HK3) (unhide HNO) (PSt.step (unhide HP4 1).2 (Or.inl rfl) ⟨v4, hp4, hk4, hn4⟩)
              have h9 := rdP_pos (c := bt s) (sz := s.size) (nv := nv) (N := N) (s.size + 1) 115 (a + 1) (mkR s 59 a r1) hlt (unhide HC1)
              exact ⟨np + 1, _, _, v3, by have := unhide HNP; omega, by omega, p3, k3, n3, a1, a2, by omega, unhide HE⟩)
            clear hp4 hk4 hn4
            generalize (rdP (bt s) s.size nv N (s.size + 1) 115 (a + 1) (mkR s 59 a r1)).1 = a9 at *
            go_wp2_with fail
            go_roundg q1
            case measure => have := unhide HQ; omega
            case rel => exact ⟨a9, q1, rfl, rfl, unhide HL⟩
      · have hlt' : decide ((a : Int) < (s.size : Int)) = false := by simp; omega
        have HE := hide (show RR = (np, T, r1) by
          rw [unhide HR]
          simp only [rdG]
          rw [if_neg (fun x => hlt x.2)])
        clear hp
        go_wp2_with fail
        go_end0
        exact ⟨rfl, v1, by rw [unhide HE]; exact unhide HP, unhide HK, unhide HNO⟩
    · have he' : (r1.e == 0) = false := by simpa using he
      have HE := hide (show RR = (np, T, r1) by
        rw [unhide HR]
        simp only [rdG]
        rw [if_neg (fun x => he x.1)])
      clear hp
      go_wp2_with fail
      go_end0
      exact ⟨rfl, v1, by rw [unhide HE]; exact unhide HP, unhide HK, unhide HNO⟩

end Go.Proofs.YtfcflnnleadpkaaGreat

namespace Go.Proofs.YtfcflnnleadpkaaGreat
open Go.RowKit
variable {B : Nat} {w w' w'' : World} {b : Nat} {s : ByteArray} {N nv np : Nat} {S : Nat → Int} {r r' : RdS} {v v' : Value}

/-- Every call is a digit. -/
def Digs (c : Nat → Int) (C : List Nat) : Prop := ∀ k, k ∈ C → isDB (c k) 4 = true
theorem rdP_digs {c : Nat → Int} {sz : Nat} : ∀ (f : Nat) (k : Int) (a : Nat) (r : RdS), Digs c r.C → Digs c (rdP c sz nv N f k a r).2.C := by
  intro f
  induction f with
  | zero => intro k a r h; exact h
  | succ f ih =>
    intro k a r h
    have hL : ∀ (inn : ByteArray) (m i nx : Nat) (r : RdS), Digs c r.C → Digs c (rdL (rdP c sz nv N f) a inn m i nx r).2.C := by
      intro inn m
      induction m with
      | zero => intro i nx r h; exact h
      | succ m ihm =>
        intro i nx r h
        simp only [rdL]
        exact ihm _ _ _ (ih _ _ _ h)
    by_cases he : r.e = 0
    · by_cases hs : a < sz
      · cases hp : ptI nv N k (c a) with
        | none => rw [rdP_bad he hs hp, refR_C]; exact h
        | some inn =>
          rw [rdP_go he hs hp]
          refine hL _ _ _ _ _ ?_
          by_cases hk : k = 112
          · rw [if_pos hk]
            subst hk
            intro x hx
            rcases List.mem_append.1 hx with hx | hx
            · exact h x hx
            · rw [List.mem_singleton.1 hx]
              have h9 : ptI nv N 112 (c a) = yesI (isDB (c a) 4) := rfl
              rw [h9] at hp
              cases e : isDB (c a) 4 with
              | true => rfl
              | false => rw [e] at hp; cases hp
          · rw [if_neg hk]; exact h
      · rw [rdP_end he hs, refR_C]; exact h
    · rw [rdP_flt he]; exact h
theorem rdG_digs : ∀ (g a np : Nat) (S : Nat → Int) (r : RdS), Digs (bt s) r.C → Digs (bt s) (rdG s nv N g a np S r).2.2.C := by
  intro g
  induction g with
  | zero => intro a np S r h; exact h
  | succ g ih =>
    intro a np S r h
    simp only [rdG]
    split
    · split
      · rw [refR_C]; exact h
      · exact ih _ _ _ _ (rdP_digs _ _ _ _ (by rw [mkR_C]; exact h))
    · exact h
theorem rdAll_digs (h : Digs (bt s) r.C) : Digs (bt s) (rdAll s nv N S r).2.2.C := rdG_digs _ _ _ _ _ (rdP_digs _ _ _ _ (by rw [mkR_C]; exact h))

/-- The fault that a missing procedure is. -/
def msR (s : ByteArray) (np : Nat) (r : RdS) : RdS := match badCall (bt s) np r.C with | some k => { r with e := 5, p := (k : Int) } | none => r
set_option maxHeartbeats 1000000 in
set_option maxRecDepth 100000 in
theorem missing_ok (h : PR B w b s N nv np S r v) (hC : r.C.length ≤ 302) (hd : Digs (bt s) r.C) :
    Calls Tryz.prog 47 #[.pointer (some ⟨b, 0, none⟩)] w fun e w' => e = .returned (.tuple #[]) ∧ PR B w' b s N nv np S (msR s np r) v ∧ Kp b v.ownBlock w w' := by
  have HM := hide (show msR s np r = match badCall (bt s) np (r.C.drop 0) with | some k => { r with e := 5, p := (k : Int) } | none => r from rfl)
  obtain ⟨ad, cap, rfl, hcell⟩ := own_cells h.own
  have HC := hide hcell
  have HD := hide hd
  have HH := hide h
  clear hcell hd
  have k9 := h.c911
  have k5 := h.c5
  have k2 := h.c2
  have k0 := h.c0
  have k1 := h.c1
  have z0 := h.fz 0
  have z1 := h.fz 1
  clear h
  go_enter Tryz.func47, Tryz.ntmps47
  go_wp2_with fail
  go_loopw [2] (fun d wr => ∃ m q : Nat, m ≤ r.C.length ∧ d = .int .i64 (m : Int) ∧ wr = w.drewN q ∧ badCall (bt s) np (r.C.drop 0) = badCall (bt s) np (r.C.drop m)) (fun d _ => r.C.length - (intOf d).toNat)
  case atStart => exact ⟨0, 0, Nat.zero_le _, rfl, rfl, rfl⟩
  case round =>
    obtain ⟨m, q, hm, rfl, rfl, hq⟩ := hrel
    have HQ := hide hq
    clear hq
    by_cases hlt : m < r.C.length
    · have hlt' : (m : Int) < (r.C.length : Int) := by omega
      obtain ⟨g, rfl, hg⟩ := unhide HC m hlt
      have HB := hide (badCall_drop (bt s) np r.C m hlt)
      have hdm := unhide HD (r.C.getD m 0) (by simp [hlt])
      obtain ⟨x, ex, hx4⟩ := isDB_nat (m := 4) hdm
      have hks := isDB_lt hdm
      have HDG := hide (show dgt (bt s (r.C.getD m 0)) 4 = (x : Int) by rw [dgt_yes ((isDB_iff _ _).1 hdm)]; exact ex)
      have HEX := hide ex
      clear hdm ex
      generalize r.C.getD m 0 = k at *
      have HPE := hide (fun q : Nat => ((unhide HH).drewN q).putE 5 (k : Int))
      have HKD := hide (fun q : Nat => show Kp b (Value.slice (some ⟨g, 0, none⟩) r.C.length cap).ownBlock w (w.drewN q) from ⟨rfl, rfl, rfl, Nat.le_refl _, fun _ _ _ _ => rfl⟩)
      by_cases hge : (np : Int) ≤ (x : Int)
      · have HF := hide (show msR s np r = { r with e := 5, p := (k : Int) } by
          rw [unhide HM, unhide HQ, unhide HB, unhide HDG, if_pos hge])
        go_wp2_with fail
        go_region_with (go_at_call 82; refine (pDigit_at _ _ 0 k s rfl ((unhide HH).drewN (q + 1)).c2 hks (unhide HEX)).mono ?_; rintro e w' ⟨rfl, rfl⟩)
        all_goals
          go_wp2_with fail
          refine bodyPost_ret (v := .tuple #[]) (results_none Tryz.results47 _ _ _) rfl ⟨rfl, ?_, ?_⟩
          · rw [unhide HF]; exact (unhide HPE (q + 1)).1
          · exact (unhide HKD (q + 1)).trans (unhide HPE (q + 1)).2 (Or.inl rfl)
      · have HF := hide (show badCall (bt s) np (r.C.drop 0) = badCall (bt s) np (r.C.drop (m + 1)) by
          rw [unhide HQ, unhide HB, unhide HDG, if_neg hge])
        have hge' : decide ((np : Int) ≤ (x : Int)) = false := by simpa using hge
        go_wp2_with fail
        go_region_with (go_at_call 82; refine (pDigit_at _ _ 0 k s rfl ((unhide HH).drewN (q + 1)).c2 hks (unhide HEX)).mono ?_; rintro e w' ⟨rfl, rfl⟩)
        all_goals
          go_wp2_with fail
          go_roundw
          case rel => exact ⟨m + 1, q + 1, by omega, by go_num, rfl, unhide HF⟩
          case measure => simp [intOf]; omega
    · have hlt' : decide ((m : Int) < (r.C.length : Int)) = false := by simp; omega
      have HF := hide (show msR s np r = r by
        rw [unhide HM, unhide HQ, List.drop_of_length_le (by omega)]; rfl)
      have HKD := hide (fun q : Nat => show Kp b (Value.slice ad r.C.length cap).ownBlock w (w.drewN q) from ⟨rfl, rfl, rfl, Nat.le_refl _, fun _ _ _ _ => rfl⟩)
      go_wp2_with fail
      go_end0
      exact ⟨rfl, by rw [unhide HF]; exact (unhide HH).drewN _, unhide HKD _⟩

end Go.Proofs.YtfcflnnleadpkaaGreat

namespace Go.Proofs.YtfcflnnleadpkaaGreat

section
variable {s : ByteArray} {N nv np : Nat} {S : Nat → Int} {r : RdS}

theorem bt_out : ∀ a, s.size ≤ a → bt s a = 0 := fun a h => by unfold bt; rw [dif_neg (by omega)]
theorem mkR_yes {m : Int} {a : Nat} (h : bt s a = m) (hm : m ≠ 0) : mkR s m a r = r ∧ a < s.size := by
  have ha : a < s.size := by
    by_cases ha : a < s.size
    · exact ha
    · exact absurd (bt_out (s := s) a (by omega)) (by rw [h]; exact hm)
  unfold mkR; rw [if_pos ⟨ha, h⟩]; exact ⟨rfl, ha⟩
theorem mkR_no {m : Int} {a : Nat} (he : r.e = 0) (h : bt s a ≠ m) : (mkR s m a r).e = 4 ∧ (mkR s m a r).p = (a : Int) := by
  unfold mkR; rw [if_neg (fun x => h x.2)]
  exact refR_flt (a := a) he
theorem rdG_stuck (h : r.e ≠ 0) : ∀ g a np S, rdG s nv N g a np S r = (np, S, r) := by
  intro g a np S
  cases g with
  | zero => rfl
  | succ g => simp only [rdG]; rw [if_neg (fun x => h x.1)]

theorem rdG_end {g a : Nat} (h : ¬ (r.e = 0 ∧ a < s.size)) : rdG s nv N (g + 1) a np S r = (np, S, r) := by simp only [rdG]; rw [if_neg h]
theorem rdG_full {g a : Nat} (h : r.e = 0 ∧ a < s.size) (h4 : 4 ≤ np) : rdG s nv N (g + 1) a np S r = (np, S, refR r a) := by simp only [rdG]; rw [if_pos h, if_pos h4]
theorem rdG_go {g a : Nat} (h : r.e = 0 ∧ a < s.size) (h4 : ¬ 4 ≤ np) : rdG s nv N (g + 1) a np S r = rdG s nv N g (rdP (bt s) s.size nv N (s.size + 1) 115 (a + 1) (mkR s 59 a r)).1 (np + 1) (setS S (np + 1) ((a + 1 : Nat) : Int)) (rdP (bt s) s.size nv N (s.size + 1) 115 (a + 1) (mkR s 59 a r)).2 := by
  simp only [rdG]; rw [if_pos h, if_neg h4]
theorem scPr_e0 {c : Nat → Int} {sz f g a : Nat} {C P : List Nat} (h : ¬ a < sz) : scPr c nv N sz f (g + 1) a C P = (a, false, C, P) := by simp only [scPr]; rw [if_neg h]
theorem scPr_e1 {c : Nat → Int} {sz f g a : Nat} {C P : List Nat} (h : a < sz) (h2 : ¬ (c a = 59 ∧ P.length < 4)) : scPr c nv N sz f (g + 1) a C P = (a, true, C, P) := by simp only [scPr]; rw [if_pos h, if_neg h2]
theorem scPr_e2 {c : Nat → Int} {sz f g a k : Nat} {C P D : List Nat} (h : a < sz) (h2 : c a = 59 ∧ P.length < 4) (h3 : scS c nv N f (a + 1) C = (k, true, D)) : scPr c nv N sz f (g + 1) a C P = (k, true, D, P ++ [a + 1]) := by simp only [scPr]; rw [if_pos h, if_pos h2, h3]; simp
theorem scPr_e3 {c : Nat → Int} {sz f g a k : Nat} {C P D : List Nat} (h : a < sz) (h2 : c a = 59 ∧ P.length < 4) (h3 : scS c nv N f (a + 1) C = (k, false, D)) : scPr c nv N sz f (g + 1) a C P = scPr c nv N sz f g k D (P ++ [a + 1]) := by simp only [scPr]; rw [if_pos h, if_pos h2, h3]; simp

/-- The places of the parts, so far. -/
structure Rd (s : ByteArray) (N nv : Nat) (P : List Nat) (np : Nat) (S : Nat → Int) (r : RdS) (a : Nat) : Prop where
  e : r.e = 0
  p : r.p = 0
  np : np = P.length
  st : ∀ k, k < P.length → S (k + 1) = ((P.getD k 0 : Nat) : Int)
  sz : ∀ k, P.length ≤ k → S (k + 1) = 0
  m0 : S 0 = ((nv + 1 : Nat) : Int)
  tb : ∀ k, k < P.length → ∃ j, wfS (bt s) nv N 4 (s.size + 1) (P.getD k 0) = (j, false) ∧ j ≤ a ∧ tbS (bt s) nv N 4 r.T (s.size + 1) (P.getD k 0)
  tm : ∃ j, wfS (bt s) nv N 4 (s.size + 1) (nv + 1) = (j, false) ∧ j ≤ a ∧ tbS (bt s) nv N 4 r.T (s.size + 1) (nv + 1)
  o0 : ∀ j, 0 < P.length → wfS (bt s) nv N 4 (s.size + 1) (nv + 1) = (j, false) → j ≤ P.getD 0 0
  o1 : ∀ k j, k + 1 < P.length → wfS (bt s) nv N 4 (s.size + 1) (P.getD k 0) = (j, false) → j ≤ P.getD (k + 1) 0
  l0 : ∀ j, P.length = 0 → wfS (bt s) nv N 4 (s.size + 1) (nv + 1) = (j, false) → j = a
  l1 : ∀ j, 0 < P.length → wfS (bt s) nv N 4 (s.size + 1) (P.getD (P.length - 1) 0) = (j, false) → j = a

theorem getD_snoc_lt {P : List Nat} {x k : Nat} (h : k < P.length) : (P ++ [x]).getD k 0 = P.getD k 0 := by simp [List.getD, List.getElem?_append_left h]
theorem getD_snoc_last {P : List Nat} {x : Nat} : (P ++ [x]).getD P.length 0 = x := by simp [List.getD]
theorem Rd.next {P : List Nat} {a j : Nat} {D : List Nat} {T' : Nat → Nat → Int} (h : Rd s N nv P np S r a) (ha : a < s.size)
    (hw : wfS (bt s) nv N 4 (s.size + 1) (a + 1) = (j, false)) (ht : tbS (bt s) nv N 4 T' (s.size + 1) (a + 1)) (ho : Out (a + 1) j r.T T') :
    Rd s N nv (P ++ [a + 1]) (np + 1) (setS S (np + 1) ((a + 1 : Nat) : Int)) { r with C := D, T := T' } j := by
  have _ := ha
  have hj := wfS_lt3 _ _ _ hw
  have hnp := h.np
  refine ⟨h.e, h.p, by rw [List.length_append, ← hnp]; rfl, fun k hk => ?_, fun k hk => ?_, ?_, fun k hk => ?_, ?_, fun j' _ hj' => ?_, fun k j' hk hj' => ?_, fun j' h0 => ?_, fun j' _ hj' => ?_⟩
  · simp at hk
    by_cases e : k = P.length
    · subst e
      rw [getD_snoc_last, ← hnp]
      unfold setS; rw [if_pos rfl]
    · rw [getD_snoc_lt (by omega)]
      unfold setS; rw [if_neg (by omega)]
      exact h.st k (by omega)
  · simp at hk
    unfold setS; rw [if_neg (by omega)]
    exact h.sz k (by omega)
  · unfold setS; rw [if_neg (by omega)]; exact h.m0
  · simp at hk
    by_cases e : k = P.length
    · subst e
      rw [getD_snoc_last]
      exact ⟨j, hw, Nat.le_refl _, ht⟩
    · rw [getD_snoc_lt (by omega)]
      obtain ⟨j1, w1, l1, t1⟩ := h.tb k (by omega)
      exact ⟨j1, w1, by omega, tbS_keep _ _ _ w1 (fun y i g1 g2 => ho y i (by omega)) t1⟩
  · obtain ⟨j1, w1, l1, t1⟩ := h.tm
    exact ⟨j1, w1, by omega, tbS_keep _ _ _ w1 (fun y i g1 g2 => ho y i (by omega)) t1⟩
  · by_cases e : P.length = 0
    · have h1 := h.l0 j' e hj'
      have h2 : (P ++ [a + 1]).getD 0 0 = a + 1 := by have := getD_snoc_last (P := P) (x := a + 1); rw [e] at this; exact this
      rw [h2]; omega
    · rw [getD_snoc_lt (by omega)]
      exact h.o0 j' (by omega) hj'
  · simp at hk
    by_cases e : k + 1 = P.length
    · rw [getD_snoc_lt (by omega)] at hj'
      have h1 := h.l1 j' (by omega) (by rw [show P.length - 1 = k by omega]; exact hj')
      rw [e, getD_snoc_last]; omega
    · rw [getD_snoc_lt (by omega)] at hj'
      rw [getD_snoc_lt (by omega)]
      exact h.o1 k j' (by omega) hj'
  · simp at h0
  · rw [List.length_append, show P.length + [a + 1].length - 1 = P.length from rfl, getD_snoc_last, hw] at hj'
    exact (congrArg Prod.fst hj').symm

/-- The procedures are read as the document reads them. -/
theorem rdG_ok : ∀ (g a np : Nat) (S : Nat → Int) (r : RdS) (P : List Nat), Rd s N nv P np S r a → a ≤ s.size → P.length + g = 5 → P.length ≤ 4 →
    (∀ j D Ps, scPr (bt s) nv N s.size (s.size + 1) g a r.C P = (j, false, D, Ps) → ∃ r', rdG s nv N g a np S r = (Ps.length, (rdG s nv N g a np S r).2.1, r') ∧ r'.C = D ∧ Rd s N nv Ps Ps.length (rdG s nv N g a np S r).2.1 r' j) ∧
    (∀ j D Ps, scPr (bt s) nv N s.size (s.size + 1) g a r.C P = (j, true, D, Ps) → (rdG s nv N g a np S r).2.2.e = 4 ∧ (rdG s nv N g a np S r).2.2.p = (j : Int)) := by
  intro g
  induction g with
  | zero => intro a np S r P _ _ h1 h2; omega
  | succ g ih =>
    intro a np S r P h ha h5 h4
    by_cases hlt : a < s.size
    · by_cases hP : P.length < 4
      · have hn4 : ¬ 4 ≤ np := by rw [h.np]; omega
        rw [rdG_go ⟨h.e, hlt⟩ hn4]
        by_cases hc : bt s a = 59
        · rw [(mkR_yes (r := r) hc (by omega)).1]
          obtain ⟨i1, i2⟩ := rdS_ok (c := bt s) (sz := s.size) (nv := nv) (N := N) bt_out (s.size + 1) (a + 1) r h.e hlt (by omega)
          obtain ⟨k, b, D1, hs⟩ : ∃ k b D1, scS (bt s) nv N (s.size + 1) (a + 1) r.C = (k, b, D1) := ⟨_, _, _, rfl⟩
          cases b
          · obtain ⟨T', q1, tb, o⟩ := i1 k D1 hs
            have w1 := wf4_of hs
            have in1 := wfS_in (sz := s.size) bt_out _ _ _ w1
            rw [q1, scPr_e3 hlt ⟨hc, hP⟩ hs]
            exact ih k (np + 1) _ { r with C := D1, T := T' } (P ++ [a + 1]) (h.next hlt w1 tb o) in1 (by simp; omega) (by simp; omega)
          · have hF := i2 k D1 hs
            rw [rdG_stuck (by rw [hF.1]; omega), scPr_e2 hlt ⟨hc, hP⟩ hs]
            refine ⟨fun j D Ps h => by simp at h, fun j D Ps h => ?_⟩
            simp only [Prod.mk.injEq] at h
            obtain ⟨rfl, _⟩ := h
            exact hF
        · have hF := mkR_no (r := r) (a := a) h.e hc
          rw [rdP_stuck (by rw [hF.1]; omega), rdG_stuck (by rw [hF.1]; omega), scPr_e1 hlt (fun x => hc x.1)]
          refine ⟨fun j D Ps h => by simp at h, fun j D Ps h => ?_⟩
          simp only [Prod.mk.injEq] at h
          obtain ⟨rfl, _⟩ := h
          exact hF
      · rw [rdG_full ⟨h.e, hlt⟩ (by rw [h.np]; omega), scPr_e1 hlt (fun x => hP x.2)]
        refine ⟨fun j D Ps h => by simp at h, fun j D Ps h2 => ?_⟩
        simp only [Prod.mk.injEq] at h2
        obtain ⟨rfl, _⟩ := h2
        exact refR_flt (a := a) h.e
    · rw [rdG_end (fun x => hlt x.2), scPr_e0 hlt]
      refine ⟨fun j D Ps h2 => ?_, fun j D Ps h => by simp at h⟩
      simp only [Prod.mk.injEq] at h2
      obtain ⟨rfl, _, rfl, rfl⟩ := h2
      refine ⟨r, by rw [h.np], rfl, ?_⟩
      have := h
      rw [h.np] at this
      exact this

/-- The whole text. -/
theorem rdAll_ok (he : r.e = 0) (hp : r.p = 0) (hC : r.C = []) (hS : ∀ k, S (k + 1) = 0) :
    (∀ j D Ps, nvOf (bt s) N = nv → prA s N = (j, false, D, Ps) → ∃ S' r', rdAll s nv N S r = (Ps.length, S', r') ∧ r'.C = D ∧ Rd s N nv Ps Ps.length S' r' j) ∧
    (∀ j D Ps, nvOf (bt s) N = nv → prA s N = (j, true, D, Ps) → (rdAll s nv N S r).2.2.e = 4 ∧ (rdAll s nv N S r).2.2.p = (j : Int)) := by
  have key : nvOf (bt s) N = nv → (∀ j D Ps, prA s N = (j, false, D, Ps) → ∃ S' r', rdAll s nv N S r = (Ps.length, S', r') ∧ r'.C = D ∧ Rd s N nv Ps Ps.length S' r' j) ∧
    (∀ j D Ps, prA s N = (j, true, D, Ps) → (rdAll s nv N S r).2.2.e = 4 ∧ (rdAll s nv N S r).2.2.p = (j : Int)) := by
    intro hnv
    unfold prA parseAll rdAll
    rw [hnv]
    by_cases hc : bt s nv = 58
    · rw [if_pos hc, (mkR_yes (r := r) hc (by omega)).1]
      have hlt := (mkR_yes (r := r) hc (by omega)).2
      obtain ⟨i1, i2⟩ := rdS_ok (c := bt s) (sz := s.size) (nv := nv) (N := N) bt_out (s.size + 1) (nv + 1) r he hlt (by omega)
      rw [hC] at i1 i2
      obtain ⟨k, b, D1, hs⟩ : ∃ k b D1, scS (bt s) nv N (s.size + 1) (nv + 1) [] = (k, b, D1) := ⟨_, _, _, rfl⟩
      rw [hs]
      cases b
      · obtain ⟨T', q1, tb, o⟩ := i1 k D1 hs
        have w1 := wf4_of hs
        have in1 := wfS_in (sz := s.size) bt_out _ _ _ w1
        simp only [Bool.false_eq_true, if_false]
        rw [q1]
        have hRd : Rd s N nv [] 0 (setS S 0 ((nv + 1 : Nat) : Int)) { r with C := D1, T := T' } k := by
          refine ⟨he, hp, rfl, fun k hk => by simp at hk, fun k _ => by unfold setS; rw [if_neg (by omega)]; exact hS k, by unfold setS; rw [if_pos rfl], fun k hk => by simp at hk, ⟨k, w1, Nat.le_refl _, tb⟩, fun j h => by simp at h, fun k j h => by simp at h, fun j' _ h => ?_, fun j h => by simp at h⟩
          rw [w1] at h
          exact (congrArg Prod.fst h).symm
        obtain ⟨g1, g2⟩ := rdG_ok 5 k 0 _ _ [] hRd in1 rfl (by simp)
        refine ⟨fun j D Ps h => ?_, fun j D Ps h => g2 j D Ps h⟩
        obtain ⟨r', e1, e2, e3⟩ := g1 j D Ps h
        exact ⟨_, r', e1, e2, e3⟩
      · have hF := i2 k D1 hs
        simp only [if_true]
        rw [rdG_stuck (by rw [hF.1]; omega)]
        refine ⟨fun j D Ps h => by simp at h, fun j D Ps h => ?_⟩
        simp only [Prod.mk.injEq] at h
        obtain ⟨rfl, _⟩ := h
        exact hF
    · rw [if_neg hc]
      have hF := mkR_no (r := r) (a := nv) he hc
      rw [rdP_stuck (by rw [hF.1]; omega), rdG_stuck (by rw [hF.1]; omega)]
      refine ⟨fun j D Ps h => by simp at h, fun j D Ps h => ?_⟩
      simp only [Prod.mk.injEq] at h
      obtain ⟨rfl, _⟩ := h
      exact hF
  exact ⟨fun j D Ps h => (key h).1 j D Ps, fun j D Ps h => (key h).2 j D Ps⟩
end

end Go.Proofs.YtfcflnnleadpkaaGreat
