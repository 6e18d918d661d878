import Derived.Test.YtfcflnnleadpkaaGreatRaJ
import Derived.Laws.Rows
import Derived.Deep.WholeRow
namespace Go.Proofs.YtfcflnnleadpkaaGreat
open Go.RowKit

theorem LoopI_start {w0 wr : World} {o : Value} {s : ByteArray} {N nv i : Nat} {bad : Bool} {C : List Nat} {v : Value} {main : Nat} {pv fl : Value} {A : Nat × Bool × List Nat × List Nat}
    (h : PI w0 wr w0.heap.size (w0.heap.size + 1) o s i bad N nv C v main [] pv fl) (hA : A = if bad = true then (i, true, C, []) else scPr (bt s) nv N s.size (s.size + 1) 5 i C []) (hi : i ≤ s.size) (hC : C.length ≤ i)
    (hin : bad = false → ∀ k, k ∈ C → k < s.size) : LoopI w0 wr o s N nv 6 i bad C main [] A := by
  refine ⟨⟨v, pv, fl, h⟩, ?_, hi, hC, hin⟩
  cases bad
  · rw [if_neg (by simp)]; exact ⟨5, rfl, by simpa using hA, rfl, by simp⟩
  · rw [if_pos rfl]; simpa using hA

theorem own_cells {w : World} {B : Nat} {C : List Nat} {v : Value} (h : w.ownsRow B 3 1 v C.length (cells C)) : ∃ a cap, v = .slice a C.length cap ∧ ∀ j, j < C.length → ∃ g, a = some ⟨g, 0, none⟩ ∧ w.cell? ⟨g, j, none⟩ = some (.int .i64 ((C.getD j 0 : Nat) : Int)) := by
  obtain ⟨a, cap, rfl⟩ := ownsRow_slice h
  refine ⟨a, cap, rfl, fun j hj => ?_⟩
  rcases h.2 with ⟨e1, e2⟩ | ⟨g, cap', cur, e1, _, hg, _, _, _, ht⟩
  · omega
  · simp at e1
    refine ⟨g, e1.1, ?_⟩
    rw [cell_of_row w g j cur _ _ hg]
    have h2 : (cells C)[j]? = some (.int .i64 ((C.getD j 0 : Nat) : Int)) := by simp [cells, hj]
    rw [← ht, List.getElem?_take, if_pos (by omega)] at h2
    simpa using h2
theorem loop_next {c : Nat → Int} {nv N sz f g i : Nat} {C P : List Nat} {A : Nat × Bool × List Nat × List Nat} (hA : A = scPr c nv N sz f (g + 1) i C P) (h1 : i < sz) (h2 : c i = 59) (h3 : P.length < 4) (h4 : P.length + (g + 1) = 5) :
    if (scS c nv N f (i + 1) C).2.1 = true then A = ((scS c nv N f (i + 1) C).1, true, (scS c nv N f (i + 1) C).2.2, P ++ [i + 1])
    else (∃ g', g + 1 = g' + 1 ∧ A = scPr c nv N sz f g' (scS c nv N f (i + 1) C).1 (scS c nv N f (i + 1) C).2.2 (P ++ [i + 1]) ∧ (P ++ [i + 1]).length + g' = 5 ∧ (P ++ [i + 1]).length ≤ 4) := by
  cases e : (scS c nv N f (i + 1) C).2.1
  · rw [if_neg (by simp)]
    exact ⟨g, rfl, by rw [hA]; exact scPr_go h1 ⟨h2, h3⟩ e, by simp; omega, by simp; omega⟩
  · rw [if_pos rfl, hA]
    exact scPr_stuck h1 ⟨h2, h3⟩ e

set_option maxHeartbeats 4000000 in
set_option maxRecDepth 100000 in
theorem Parse_in (w : World) (ob : Nat) (s : ByteArray) (N : Nat) (hs : s.size ≤ 300) (hc : w.cell? ⟨ob, 0, none⟩ = some (.int .i64 (N : Int))) :
    Calls Tryz.prog 15 #[.pointer (some ⟨ob, 0, none⟩), .string s] w fun e w' => ParseAns w (.pointer (some ⟨ob, 0, none⟩)) s N e w' ∧ Below w.heap.size w w' := by
  have hgt : decide ((300 : Int) < (s.size : Int)) = false := by simp; omega
  go_enter Tryz.func15, Tryz.ntmps15
  go_wp2_with fail
  clear hc
  refine (vars_any (v := .slice none 0 0) (s := s) (N := N) (nv := 0) ?_).mono ?_
  · exact (Below.heap_alloc _ _ _ (by simp)).trans (heap_alloc_last w _)
  rintro e w1 ⟨l, rfl, hsc, hown, hkp⟩
  have hpr : w1.heap[w.heap.size + 1]? = some (.cells (pgC (.pointer (some ⟨ob, 0, none⟩)) s 0 (.slice none 0 0) (.slice none 0 0)) 79 (0, 0)) := by
    refine (hkp.block (w.heap.size + 1) (by simp) (by omega) (by simp)).trans ?_
    have := heap_alloc_last (w.alloc (.cells (scC s 0 false N 0 (.slice none 0 0)) 95)) (.cells (pgC (.pointer (some ⟨ob, 0, none⟩)) s 0 (.slice none 0 0) (.slice none 0 0)) 79)
    rw [show (w.alloc (.cells (scC s 0 false N 0 (.slice none 0 0)) 95)).heap.size = w.heap.size + 1 by simp] at this
    exact this
  have p4 : w1.cell? ⟨w.heap.size + 1, 4, none⟩ = some (.slice none 0 0) := by rw [cell_of_row w1 _ 4 _ _ _ hpr]; rfl
  have p2 : w1.cell? ⟨w.heap.size + 1, 2, none⟩ = some (.int .i64 0) := by rw [cell_of_row w1 _ 2 _ _ _ hpr]; rfl
  have z4 := frozen_of_row w1 _ 4 _ _ hpr
  have z2 := frozen_of_row w1 _ 2 _ _ hpr
  have c4 := hsc.c4
  have c1 := hsc.c1
  have c2 := hsc.c2
  have y4 := hsc.fz 4
  obtain ⟨la, lc, rfl⟩ := ownsRow_slice hown
  have HPI := hide (PI_init (w := w) (by simp) (((Below.refl _ _).alloc (Nat.le_refl _) _).alloc (by simp) _) hsc hpr (by have h := hown; simp at h; exact h) hkp)
  have HSZ := hide hkp.size
  clear hsc hown hkp hpr
  have HNV := hide (show nvOf (bt s) N = prNv s N from rfl)
  cases hr : (vrEnd (bt s) N).2
  · rw [hr] at c2 HPI
    have HV := hide (show bt s (nvOf (bt s) N) = 58 ∧ (vrEnd (bt s) N).1 = nvOf (bt s) N + 1 by
      unfold vrEnd at hr ⊢
      by_cases e : bt s (nvOf (bt s) N) = 58
      · rw [if_pos e]; exact ⟨e, rfl⟩
      · rw [if_neg e] at hr; simp at hr)
    rw [(unhide HV).2] at HPI c1
    have HLT := hide (show nvOf (bt s) N + 1 ≤ s.size from bt_lt (by rw [(unhide HV).1]; omega))
    go_wp2_with fail
    refine (stmt_ok _ _ s N (nvOf (bt s) N) hs (s.size + 1) _ _ [] _ (unhide HPI).sc (by omega) (unhide HLT) (by have := (unhide HPI).bel.size; have := unhide HSZ; simp at *; omega) (by simp)).mono ?_
    rintro e w2 ⟨rfl, hs2⟩
    obtain ⟨v2, hpi2⟩ := (unhide HPI).stmt hs2
    have HLI := hide (LoopI_start (A := prA s N) hpi2 (by
        unfold prA parseAll
        rw [if_pos (unhide HV).1]) (scS_good s _ N (s.size + 1) _ [] (unhide HLT) (by simp)).2.1 (scS_good s _ N (s.size + 1) _ [] (unhide HLT) (by simp)).2.2 (scS_in s _ N (s.size + 1) _ [] (by simp)))
    have HMA := hide (show (scS (bt s) (nvOf (bt s) N) N (s.size + 1) (nvOf (bt s) N + 1) []).2.1 = false → nvOf (bt s) N + 1 = prNv s N + 1 from fun _ => rfl)
    clear hpi2 hs2 p4 p2 z4 z2 c4 c1 c2 y4 HPI HV HLT hr
    generalize scS (bt s) (nvOf (bt s) N) N (s.size + 1) (nvOf (bt s) N + 1) [] = R at *
    obtain ⟨i0, bad0, C0⟩ := R
    generalize nvOf (bt s) N + 1 = mn at *
    go_wp2_with fail
    go_loopg [] 6 (fun g wr => ∃ (i : Nat) (bad : Bool) (C P : List Nat) (m : Nat), (bad = false → m = prNv s N + 1) ∧ LoopI w wr (.pointer (some ⟨ob, 0, none⟩)) s N (nvOf (bt s) N) g i bad C m P (prA s N))
    case atStart => exact ⟨i0, bad0, C0, [], mn, unhide HMA, unhide HLI⟩
    case round =>
      obtain ⟨i, bad, C, P, m, hm, hli⟩ := hrel
      obtain ⟨v, pv, fl, hpi⟩ := hli.pi
      have HM := hide hm
      have HLI1 := hide hli
      have HP := hide hpi
      have k1 := hpi.sc.sc.c1
      have k2 := hpi.sc.sc.c2
      have k3 := hpi.c3
      have HLE := hide hli.le
      clear hm hli hpi
      cases bad
      · obtain ⟨g', hg', hA, hPg, hP4⟩ := (unhide HLI1).all
        obtain ⟨g2, rfl⟩ : ∃ g2, g' = g2 + 1 := ⟨g' - 1, by omega⟩
        have HA := hide hA
        clear hA
        have y2 := (unhide HP).sc.sc.fz 2
        have y1 := (unhide HP).sc.sc.fz 1
        obtain ⟨pa, pc, rfl⟩ := ownsRow_slice (unhide HP).pown
        by_cases hlt : i < s.size
        · have hlt' : (i : Int) < (s.size : Int) := by omega
          have hbq := bt_eq s i hlt
          by_cases h59 : bt s i = 59
          · have h59' : (bt s i != 59) = false := by simp [h59]
            by_cases h4 : P.length < 4
            · have h4' : decide ((4 : Int) ≤ (P.length : Int)) = false := by simp; omega
              go_wp2_with fail
              have HP1 := hide ((unhide HP).setI ((i : Int) + 1) (i + 1) (by omega))
              generalize wr.setCell ⟨w.heap.size, 1, none⟩ (.int .i64 ((i : Int) + 1)) = wI at *
              have q1 := (unhide HP1).sc.sc.c1
              have q3 := (unhide HP1).c3
              have qz := (unhide HP1).fz 3
              have hpbl : w.heap.size + 1 < wI.heap.size := World.block_lt_of_cell? wI _ q3
              have hne : some (w.heap.size + 1) ≠ (Value.slice pa P.length pc).ownBlock := fun e => by have := ((unhide HP1).pown.lt _ e.symm).1; omega
              have hca := fun o => (World.cell?_of_block (w := wI) (a := ⟨w.heap.size + 1, 3, none⟩) (Below.heap_alloc wI o _ hpbl)).trans q3
              have hca1 := fun o => (World.cell?_of_block (w := wI) (a := ⟨w.heap.size, 1, none⟩) (Below.heap_alloc wI o _ (show w.heap.size < wI.heap.size by omega))).trans q1
              have hfa := fun o => (World.frozen?_of_block (w := wI) (a := ⟨w.heap.size + 1, 3, none⟩) (Below.heap_alloc wI o _ hpbl)).trans qz
              obtain ⟨i9, hi9, hz0, hz1, hz2⟩ := info_parts info_int
              have HI := hide (And.intro hi9 (And.intro hz0 (And.intro hz1 hz2)))
              clear hi9 hz0 hz1 hz2 k1 k2 k3 y1 y2
              go_region_law ((refine step_append_lies _ (by rfl) _ _ _ (by rfl) (w.heap.size + 2) 3 i9 _ 1 8 Tryz.underlying50 (unhide HI).1 (unhide HI).2.1 (unhide HI).2.2.1 (unhide HI).2.2.2 rfl (by omega) (.slice pa P.length pc) P.length (cells P) (by rfl) (((unhide HP1).pown.alloc _).drew) ⟨wI.heap.size, 0, none⟩ 1 1 [.int .i64 ((i + 1 : Nat) : Int)] (by rfl) (by rfl) (World.news_of_block (cs := #[.int .i64 ((i + 1 : Nat) : Int)]) (t := 3) (fr := (0, 0)) (heap_alloc_new wI _)) (by simp [Value.oneCell']) (by omega) (by unfold maxLen; omega) (by omega) (by simp; omega) (wI.heap.size + 1) (by simp) ?_; intro gg cap w3 hown1 hgrow hat hlt9; have hc5 := (hgrow.cell_far ⟨w.heap.size + 1, 3, none⟩ (by simp; omega) hne).trans (hca _); have hf5 := (hgrow.frozen_far ⟨w.heap.size + 1, 3, none⟩ (by simp; omega) hne).trans (hfa _)))
              all_goals
                have HP2 := hide ((unhide HP1).push hown1 hgrow hat)
                generalize w3.setCell ⟨w.heap.size + 1, 3, none⟩ (.slice (some ⟨gg, 0, none⟩) (P.length + 1) cap) = w4 at *
                clear hown1 hgrow hat hlt9 hc5 hf5 hca hca1 hfa q1 q3 qz hne hpbl
                have hw4 := (unhide HP2).bel.size
                have hw5 : w.heap.size + 1 < w4.heap.size := World.block_lt_of_cell? w4 _ (unhide HP2).c0
                go_wp2_with fail
                refine (stmt_ok _ _ s N (nvOf (bt s) N) hs (s.size + 1) _ (i + 1) C _ (unhide HP2).sc (by omega) hlt (by omega) (by have := (unhide HLI1).cl; omega)).mono ?_
                rintro e w5 ⟨rfl, hs5⟩
                have HGD := hide (scS_good s (nvOf (bt s) N) N (s.size + 1) (i + 1) C hlt (by have := (unhide HLI1).cl; omega))
                have HIN := hide (scS_in s (nvOf (bt s) N) N (s.size + 1) (i + 1) C ((unhide HLI1).inT rfl))
                have HP5 := hide ((unhide HP2).stmt hs5)
                clear hs5
                have HR := hide (loop_next (unhide HA) hlt h59 h4 hPg)
                go_wp2_with fail
                go_roundg (g2 + 1)
                case measure => omega
                case rel => exact ⟨_, _, _, P ++ [i + 1], m, (fun _ => unhide HM trivial), ⟨by obtain ⟨v5, h5⟩ := unhide HP5; exact ⟨v5, _, fl, h5⟩, unhide HR, (unhide HGD).2.1, (unhide HGD).2.2, unhide HIN⟩⟩
            · have h4' : decide ((4 : Int) ≤ (P.length : Int)) = true := by simp; omega
              have HR := hide (show prA s N = (i, true, C, P) by rw [unhide HA]; exact scPr_bad hlt (fun h => h4 h.2))
              go_wp2_with fail
              go_roundg 0
              case measure => omega
              case rel => exact ⟨i, true, C, P, m, (fun h => by cases h), ⟨⟨v, _, fl, (unhide HP).setBad true⟩, unhide HR, unhide HLE, (unhide HLI1).cl, (fun h => by cases h)⟩⟩
          · have h59' : (bt s i != 59) = true := by simp [h59]
            have HR := hide (show prA s N = (i, true, C, P) by rw [unhide HA]; exact scPr_bad hlt (fun h => h59 h.1))
            go_wp2_with fail
            go_roundg 0
            case measure => omega
            case rel => exact ⟨i, true, C, P, m, (fun h => by cases h), ⟨⟨v, _, fl, (unhide HP).setBad true⟩, unhide HR, unhide HLE, (unhide HLI1).cl, (fun h => by cases h)⟩⟩
        · have HR := hide (show prA s N = (i, false, C, P) by rw [unhide HA]; exact scPr_end hlt)
          have hlt' : decide ((i : Int) < (s.size : Int)) = false := by simp; omega
          have HC := hide (show prC s N = badCall (bt s) P.length C by unfold prC; rw [unhide HR])
          have k5 := (unhide HP).sc.sc.c5
          obtain ⟨va, vc, rfl, hcl⟩ := own_cells (unhide HP).sc.own
          have HCL := hide hcl
          have HIN := hide ((unhide HLI1).inT rfl)
          have hC4 : C.length ≤ 300 := by have := (unhide HLI1).cl; have := unhide HLE; omega
          clear hcl
          go_wp2_with fail
          go_loop [9] (fun d => ∃ j : Nat, j ≤ C.length ∧ d = .int .i64 (j : Int) ∧ badCall (bt s) P.length C = badCall (bt s) P.length (C.drop j)) (fun d => C.length - (intOf d).toNat)
          case atStart => exact ⟨0, Nat.zero_le _, rfl, rfl⟩
          case round =>
            obtain ⟨j, hj, rfl, hq⟩ := hrel
            have HQ := hide hq
            clear hq
            by_cases hjl : j < C.length
            · obtain ⟨g, rfl, hcell⟩ := unhide HCL j hjl
              have hjl' : (j : Int) < (C.length : Int) := by omega
              have HB := hide (badCall_drop (bt s) P.length C j hjl)
              have hk0 : C.getD j 0 < s.size := unhide HIN _ (by simp [hjl])
              generalize C.getD j 0 = k0 at *
              have hk0' : (k0 : Int) < (s.size : Int) := by omega
              have hbk := bt_eq s k0 hk0
              have ⟨hb0, hb1⟩ := bt_bd s k0
              by_cases hge : (P.length : Int) ≤ dgt (bt s k0) 4
              · have hge' : decide ((P.length : Int) ≤ dgt (bt s k0) 4) = true := by simpa using hge
                have HE := hide (show prE s N = 5 ∧ prP s N = (k0 : Int) by
                  have hc : prC s N = some k0 := by rw [unhide HC, unhide HQ, unhide HB, if_pos hge]
                  exact ⟨by unfold prE; rw [if_neg (by omega), unhide HR, hc]; rfl, by unfold prP; rw [if_neg (by omega), unhide HR, hc]; rfl⟩)
                go_wp2_with fail
                refine (digit_any _ _ _ hb0 hb1).mono ?_
                rintro e w' ⟨rfl, rfl⟩
                generalize dgt (bt s k0) 4 = dg at *
                go_wp2_with fail
                go_quiet (fail)
                go_wp2_with fail
                go_ret3
                exact ⟨Or.inl ⟨by rw [(unhide HE).1]; omega, by rw [(unhide HE).1, (unhide HE).2]; rfl⟩, below_drewN2 (unhide HP).bel _⟩
              · have hge' : decide ((P.length : Int) ≤ dgt (bt s k0) 4) = false := by simpa using hge
                have HS := hide (show badCall (bt s) P.length C = badCall (bt s) P.length (C.drop (j + 1)) by rw [unhide HQ, unhide HB, if_neg hge])
                go_wp2_with fail
                refine (digit_any _ _ _ hb0 hb1).mono ?_
                rintro e w' ⟨rfl, rfl⟩
                generalize dgt (bt s k0) 4 = dg at *
                go_wp2_with fail
                go_round
                case rel => exact ⟨j + 1, by omega, by go_num, unhide HS⟩
                case measure => simp [intOf]; omega
            · have HE := hide (show prE s N = 0 by
                have hc : prC s N = none := by rw [unhide HC, unhide HQ, List.drop_of_length_le (by omega)]; rfl
                unfold prE; rw [if_neg (by omega), unhide HR, hc]; rfl)
              have hjl' : decide ((j : Int) < (C.length : Int)) = false := by simp; omega
              go_wp2_with fail
              go_ret3
              exact ⟨Or.inr ⟨unhide HE, hs, rfl, _, _, fl, by
                have h := unhide HP
                rw [unhide HM trivial] at h
                unfold prPs
                rw [unhide HR]
                exact h⟩, (unhide HP).bel⟩
      · have HA := hide (show prA s N = (i, true, C, P) from (unhide HLI1).all)
        have HE := hide (show prE s N = 4 ∧ prP s N = (i : Int) by
          exact ⟨by unfold prE; rw [if_neg (by omega), unhide HA]; rfl, by unfold prP; rw [if_neg (by omega), unhide HA]; rfl⟩)
        go_wp2_with fail
        go_quiet (fail)
        go_wp2_with fail
        go_ret3
        exact ⟨Or.inl ⟨by rw [(unhide HE).1]; omega, by rw [(unhide HE).1, (unhide HE).2]; rfl⟩, below_drewN2 (unhide HP).bel _⟩
  · rw [hr] at c2 HPI
    have HV := hide (show ¬ bt s (nvOf (bt s) N) = 58 ∧ (vrEnd (bt s) N).1 = nvOf (bt s) N by
      unfold vrEnd at hr ⊢
      by_cases e : bt s (nvOf (bt s) N) = 58
      · rw [if_pos e] at hr; simp at hr
      · rw [if_neg e]; exact ⟨e, rfl⟩)
    rw [(unhide HV).2] at HPI c1
    have HE := hide (show prE s N = 4 ∧ prP s N = (nvOf (bt s) N : Int) by
      have ha : prA s N = (nvOf (bt s) N, true, [], []) := by unfold prA parseAll; rw [if_neg (unhide HV).1]
      exact ⟨by unfold prE; rw [if_neg (by omega), ha]; rfl, by unfold prP; rw [if_neg (by omega), ha]; rfl⟩)
    clear hr
    go_wp2_with fail
    generalize ((w1.setCell ⟨w.heap.size + 1, 4, none⟩ (.slice la (nvOf (bt s) N) lc)).setCell ⟨w.heap.size, 4, none⟩ (.int .i64 (nvOf (bt s) N : Int))).setCell ⟨w.heap.size + 1, 2, none⟩ (.int .i64 (nvOf (bt s) N : Int)) = w2 at *
    have k1 := (unhide HPI).sc.sc.c1
    have k2 := (unhide HPI).sc.sc.c2
    clear p4 p2 z4 z2 c4 c1 c2 y4
    go_loopg [] 1 (fun g wr => wr = w2)
    case atStart => rfl
    case round =>
      obtain rfl := hrel
      go_wp2_with fail
      go_quiet (fail)
      go_wp2_with fail
      go_ret3
      exact ⟨Or.inl ⟨by rw [(unhide HE).1]; omega, by rw [(unhide HE).1, (unhide HE).2]; rfl⟩, below_drewN2 (unhide HPI).bel _⟩

set_option maxHeartbeats 1000000 in
set_option maxRecDepth 10000 in
theorem Parse_any (w : World) (ob : Nat) (s : ByteArray) (N : Nat) (hc : w.cell? ⟨ob, 0, none⟩ = some (.int .i64 (N : Int))) :
    Calls Tryz.prog 15 #[.pointer (some ⟨ob, 0, none⟩), .string s] w fun e w' => ParseAns w (.pointer (some ⟨ob, 0, none⟩)) s N e w' ∧ Below w.heap.size w w' := by
  by_cases h : s.size ≤ 300
  · exact Parse_in w ob s N h hc
  · have hgt : (300 : Int) < (s.size : Int) := by omega
    have HE := hide (show prE s N = 1 ∧ prP s N = 0 from ⟨by unfold prE; rw [if_pos (by omega)], by unfold prP; rw [if_pos (by omega)]⟩)
    clear hc
    go_enter Tryz.func15, Tryz.ntmps15
    go_wp2_with fail
    go_ret3
    exact ⟨Or.inl ⟨by rw [(unhide HE).1]; omega, by rw [(unhide HE).1, (unhide HE).2]; rfl⟩, Below.refl _ _⟩

end Go.Proofs.YtfcflnnleadpkaaGreat

namespace Go.Proofs.YtfcflnnleadpkaaGreat
open Go.RowKit

/-- Bottom. -/
def botRow (R : Nat → Nat → Bool) (n a : Nat) : Bool := Hm.allB (R a) n 0
theorem bot_eq (R : Nat → Nat → Bool) (n : Nat) : bot R n = (Hm.firstB (botRow R n) n 0).toNat := rfl

set_option maxHeartbeats 1000000 in
theorem Bottom_any (w : World) (o g cap n : Nat) (rb : Nat → Nat) (R : Nat → Nat → Bool) (hn : n ≤ 8) (ho : Ord w o g cap n rb R) :
    Calls Tryz.prog 30 #[.pointer (some ⟨o, 0, none⟩)] w fun e w' => e = .returned (.int .i64 (bot R n : Int)) ∧ w' = w := by
  have hc := ho.cn
  have hb := ho.cb
  have HF := hide (bot_eq R n)
  go_enter Tryz.func30, Tryz.ntmps30
  go_wp2_with fail
  go_loop [3] (fun d => ∃ a : Nat, a ≤ n ∧ d = .int .i64 (a : Int) ∧ Hm.firstB (botRow R n) n 0 = Hm.firstB (botRow R n) (n - a) a) (fun d => n - (intOf d).toNat)
  case atStart => exact ⟨0, Nat.zero_le _, rfl, rfl⟩
  case round =>
    obtain ⟨a, ha, rfl, hq⟩ := hrel
    have HQ := hide hq
    clear hq
    by_cases hlt : a < n
    · have HY := hide (fun h => Hm.firstB_yes (p := botRow R n) hlt h)
      have HN := hide (fun h => Hm.firstB_no (p := botRow R n) hlt h)
      have r1 := ho.row a hlt
      go_wp2_with fail
      go_loop [4, 5] (fun x d => ∃ m : Nat, m ≤ n ∧ d = .int .i64 (m : Int) ∧ ∃ y : Bool, x = .bool y ∧ botRow R n a = (y && Hm.allB (R a) (n - m) m)) (fun _ d => n - (intOf d).toNat)
      case atStart => exact ⟨0, Nat.zero_le _, rfl, true, rfl, by simp [botRow]⟩
      case round =>
        obtain ⟨m, hm, rfl, y, rfl, hq⟩ := hrel
        have HP := hide hq
        clear hq
        by_cases hlm : m < n
        · have b1 := ho.bel a m hlt hlm
          cases y
          · have HS := hide (show botRow R n a = (false && Hm.allB (R a) (n - (m + 1)) (m + 1)) by rw [unhide HP]; rfl)
            go_wp2_with fail
            go_round
            case rel => exact ⟨m + 1, by omega, by go_num, false, rfl, unhide HS⟩
            case measure => simp [intOf]; omega
          · have HS := hide (show botRow R n a = (R a m && Hm.allB (R a) (n - (m + 1)) (m + 1)) by
              rw [unhide HP]
              cases e : R a m
              · simp [Hm.allB_no hlm e]
              · simp [Hm.allB_yes hlm e])
            go_wp2_with fail
            go_round
            case rel => exact ⟨m + 1, by omega, by go_num, R a m, rfl, unhide HS⟩
            case measure => simp [intOf]; omega
        · have HS := hide (show botRow R n a = y by rw [unhide HP, Hm.allB_end (by omega)]; simp)
          cases y
          · go_wp2_with fail
            go_round
            case rel => exact ⟨a + 1, by omega, by go_num, by rw [unhide HQ, unhide HN (unhide HS)]⟩
            case measure => simp [intOf]; omega
          · go_wp2_with fail
            go_ret
            exact ⟨by rw [unhide HF, unhide HQ, unhide HY (unhide HS)]; rfl, rfl⟩
    · have HS := hide (Hm.firstB_end (p := botRow R n) (n := n) (k := a) (by omega))
      go_wp2_with fail
      go_ret
      exact ⟨by rw [unhide HF, unhide HQ, unhide HS]; rfl, rfl⟩

/-- A slice of m numbers at the head of the block g; where there are none, any slice: nil, or (of the capacity cap - 1) at the head of g. -/
def sl (m g cap : Nat) : Value := if m = 0 then (if cap = 0 then .slice none 0 0 else .slice (some ⟨g, 0, none⟩) 0 (cap - 1)) else .slice (some ⟨g, 0, none⟩) m cap
theorem sl_form (m g cap : Nat) : ∃ a c, sl m g cap = .slice a m c := by
  unfold sl
  split
  · rename_i h
    subst h
    split
    · exact ⟨_, _, rfl⟩
    · exact ⟨_, _, rfl⟩
  · exact ⟨_, _, rfl⟩
theorem sl_pos {m g cap : Nat} (h : 0 < m) : sl m g cap = .slice (some ⟨g, 0, none⟩) m cap := by unfold sl; rw [if_neg (by omega)]
/-- The first m cells of the block g. -/
def Rw (w : World) (g m : Nat) (F : Nat → Int) : Prop := 0 < m → ∃ cur, w.heap[g]? = some (.cells cur 3 (0, 0)) ∧ ∀ k, k < m → cur[k]? = some (.int .i64 (F k))
theorem Rw.cell {w : World} {g m : Nat} {F : Nat → Int} (h : Rw w g m F) {k : Nat} (hk : k < m) : w.cell? ⟨g, k, none⟩ = some (.int .i64 (F k)) := by
  obtain ⟨cur, h1, h2⟩ := h (by omega)
  rw [cell_of_row w g k cur _ _ h1]; exact h2 k hk
theorem Rw.fz {w : World} {g m : Nat} {F : Nat → Int} (h : Rw w g m F) (hm : 0 < m) (k : Nat) : w.frozen? ⟨g, k, none⟩ = false := by
  obtain ⟨cur, h1, _⟩ := h hm
  exact frozen_of_row w g k cur _ h1
theorem Rw.of {w w' : World} {g m : Nat} {F : Nat → Int} (h : Rw w g m F) (e : 0 < m → w'.heap[g]? = w.heap[g]?) : Rw w' g m F := by
  intro hm
  obtain ⟨cur, h1, h2⟩ := h hm
  exact ⟨cur, (e hm).trans h1, h2⟩
theorem Rw.set {w : World} {g m : Nat} {F : Nat → Int} (h : Rw w g m F) (k : Nat) (x : Int) : Rw (w.setCell ⟨g, k, none⟩ (.int .i64 x)) g m (fun j => if j = k then x else F j) := by
  intro hm
  obtain ⟨cur, h1, h2⟩ := h hm
  refine ⟨cur.setIfInBounds k (.int .i64 x), ?_, fun j hj => ?_⟩
  · rw [setCell_eq_setRow w g k cur _ _ _ h1]; exact setRow_heap w g _ _ _ _ h1
  · rw [Array.getElem?_setIfInBounds]
    by_cases e : k = j
    · subst e
      have := h2 k hj
      have hlt : k < cur.size := by
        rcases Nat.lt_or_ge k cur.size with hh | hh
        · exact hh
        · rw [Array.getElem?_eq_none hh] at this; cases this
      simp [hlt]
    · rw [if_neg e, h2 j hj]
      simp [Ne.symm e]

/-- Where a Walk and all that it looks at lie. -/
structure Env where
  wb : Nat
  pb : Nat
  lb : Nat
  ob : Nat
  g : Nat
  cap : Nat
  n : Nat
  nv : Nat
  np : Nat
  main : Nat
  gv : Nat
  cv : Nat
  gx : Nat
  cx : Nat
  gt : Nat
  ct : Nat
  gf : Nat
  cf : Nat
  gp : Nat
  cp : Nat
  rb : Nat → Nat
  R : Nat → Nat → Bool
  s : ByteArray
  low : Bool
  P : Nat → Int
  B : Nat

def wkC (E : Env) (ra mute : Bool) (bad : Int) : Array Value := #[.pointer (some ⟨E.pb, 0, none⟩), .pointer (some ⟨E.lb, 0, none⟩), .bool E.low, .bool ra, .bool mute, .int .i64 bad]
def lv (F : Nat → Nat) : Nat → Int := fun k => (F k : Int)
/-- The Walk in memory, its labelling and what it looks at. -/
structure At (E : Env) (w : World) (mute : Bool) (st : WS) : Prop where
  wk : w.heap[E.wb]? = some (.cells (wkC E st.ra mute st.bad) 72 (0, 0))
  pg : w.heap[E.pb]? = some (.cells (pgC (.pointer (some ⟨E.ob, 0, none⟩)) E.s E.main (sl E.np E.gp E.cp) (sl E.nv E.gf E.cf)) 79 (0, 0))
  lb : w.heap[E.lb]? = some (.cells #[sl E.nv E.gv E.cv, sl E.np E.gx E.cx, sl E.np E.gt E.ct] 100 (0, 0))
  ord : Ord w E.ob E.g E.cap E.n E.rb E.R
  fx : Rw w E.gf E.nv (fixV (bt E.s) E.n)
  ps : Rw w E.gp E.np E.P
  rv : Rw w E.gv E.nv (lv st.V)
  rx : Rw w E.gx E.np (lv st.X)
  rt : Rw w E.gt E.np (lv st.T)

end Go.Proofs.YtfcflnnleadpkaaGreat

namespace Go.Proofs.YtfcflnnleadpkaaGreat
open Go.RowKit

/-- What lies apart. -/
structure Sep (E : Env) : Prop where
  o1 : E.ob < E.B
  o2 : E.g < E.B
  o3 : ∀ i, i < E.n → E.rb i < E.B
  bw : E.B ≤ E.wb
  bv : 0 < E.nv → E.B ≤ E.gv
  bx : 0 < E.np → E.B ≤ E.gx
  bt : 0 < E.np → E.B ≤ E.gt
  vx : 0 < E.nv → 0 < E.np → E.gv ≠ E.gx
  vt : 0 < E.nv → 0 < E.np → E.gv ≠ E.gt
  vf : 0 < E.nv → E.gv ≠ E.gf
  vp : 0 < E.nv → 0 < E.np → E.gv ≠ E.gp
  xt : 0 < E.np → E.gx ≠ E.gt
  xf : 0 < E.nv → 0 < E.np → E.gx ≠ E.gf
  xp : 0 < E.np → E.gx ≠ E.gp
  tf : 0 < E.nv → 0 < E.np → E.gt ≠ E.gf
  tp : 0 < E.np → E.gt ≠ E.gp
/-- What a look leaves as it was. -/
structure Fr (E : Env) (w w' : World) : Prop where
  os : w'.os = w.os
  tape : w'.tape = w.tape
  output : w'.output = w.output
  size : w'.heap.size = w.heap.size
  block : ∀ k, k ≠ E.wb → (0 < E.nv → k ≠ E.gv) → (0 < E.np → k ≠ E.gx ∧ k ≠ E.gt) → w'.heap[k]? = w.heap[k]?
variable {E : Env} {w w' w'' : World} {mute : Bool} {st : WS}
theorem Fr.refl (E : Env) (w : World) : Fr E w w := ⟨rfl, rfl, rfl, rfl, fun _ _ _ _ => rfl⟩
theorem Fr.trans (h : Fr E w w') (k : Fr E w' w'') : Fr E w w'' :=
  ⟨k.os.trans h.os, k.tape.trans h.tape, k.output.trans h.output, k.size.trans h.size, fun j h1 h2 h3 => (k.block j h1 h2 h3).trans (h.block j h1 h2 h3)⟩
theorem Fr.drewN (h : Fr E w w') (q : Nat) : Fr E w (w'.drewN q) := ⟨h.os, h.tape, h.output, h.size, h.block⟩
theorem At.drewN (h : At E w mute st) (q : Nat) : At E (w.drewN q) mute st := ⟨h.wk, h.pg, h.lb, ⟨h.ord.cn, h.ord.cb, h.ord.row, h.ord.bel⟩, h.fx, h.ps, h.rv, h.rx, h.rt⟩

theorem At.cP (h : At E w mute st) : w.cell? ⟨E.wb, 0, none⟩ = some (.pointer (some ⟨E.pb, 0, none⟩)) := by rw [cell_of_row w _ 0 _ _ _ h.wk]; rfl
theorem At.cL (h : At E w mute st) : w.cell? ⟨E.wb, 1, none⟩ = some (.pointer (some ⟨E.lb, 0, none⟩)) := by rw [cell_of_row w _ 1 _ _ _ h.wk]; rfl
theorem At.cLow (h : At E w mute st) : w.cell? ⟨E.wb, 2, none⟩ = some (.bool E.low) := by rw [cell_of_row w _ 2 _ _ _ h.wk]; rfl
theorem At.cRa (h : At E w mute st) : w.cell? ⟨E.wb, 3, none⟩ = some (.bool st.ra) := by rw [cell_of_row w _ 3 _ _ _ h.wk]; rfl
theorem At.cMu (h : At E w mute st) : w.cell? ⟨E.wb, 4, none⟩ = some (.bool mute) := by rw [cell_of_row w _ 4 _ _ _ h.wk]; rfl
theorem At.cBad (h : At E w mute st) : w.cell? ⟨E.wb, 5, none⟩ = some (.int .i64 st.bad) := by rw [cell_of_row w _ 5 _ _ _ h.wk]; rfl
theorem At.fz (h : At E w mute st) (j : Nat) : w.frozen? ⟨E.wb, j, none⟩ = false := frozen_of_row w _ j _ _ h.wk
theorem At.cO (h : At E w mute st) : w.cell? ⟨E.pb, 0, none⟩ = some (.pointer (some ⟨E.ob, 0, none⟩)) := by rw [cell_of_row w _ 0 _ _ _ h.pg]; rfl
theorem At.cS (h : At E w mute st) : w.cell? ⟨E.pb, 1, none⟩ = some (.string E.s) := by rw [cell_of_row w _ 1 _ _ _ h.pg]; rfl
theorem At.cF (h : At E w mute st) : w.cell? ⟨E.pb, 4, none⟩ = some (sl E.nv E.gf E.cf) := by rw [cell_of_row w _ 4 _ _ _ h.pg]; rfl
theorem At.cV (h : At E w mute st) : w.cell? ⟨E.lb, 0, none⟩ = some (sl E.nv E.gv E.cv) := by rw [cell_of_row w _ 0 _ _ _ h.lb]; rfl
theorem At.cX (h : At E w mute st) : w.cell? ⟨E.lb, 1, none⟩ = some (sl E.np E.gx E.cx) := by rw [cell_of_row w _ 1 _ _ _ h.lb]; rfl
theorem At.cT (h : At E w mute st) : w.cell? ⟨E.lb, 2, none⟩ = some (sl E.np E.gt E.ct) := by rw [cell_of_row w _ 2 _ _ _ h.lb]; rfl

/-- Two blocks of different types are two. -/
theorem ne_of_types {w : World} {a b : Nat} {x y : Array Value} {s t : TypeId} {f g : Nat × Nat} (h1 : w.heap[a]? = some (.cells x s f)) (h2 : w.heap[b]? = some (.cells y t g)) (h : s ≠ t) : a ≠ b := by
  intro e; subst e; rw [h1] at h2; simp at h2; exact h h2.2.1
theorem Ord.keep {o g cap n : Nat} {rb : Nat → Nat} {R : Nat → Nat → Bool} (h : Ord w o g cap n rb R) (h1 : w'.heap[o]? = w.heap[o]?) (h2 : w'.heap[g]? = w.heap[g]?) (h3 : ∀ i, i < n → w'.heap[rb i]? = w.heap[rb i]?) : Ord w' o g cap n rb R :=
  ⟨(World.cell?_of_block (w := w) (a := ⟨o, 0, none⟩) h1).trans h.cn, (World.cell?_of_block (w := w) (a := ⟨o, 1, none⟩) h1).trans h.cb, fun i hi => (World.cell?_of_block (w := w) (a := ⟨g, i, none⟩) h2).trans (h.row i hi),
    fun i j hi hj => (World.cell?_of_block (w := w) (a := ⟨rb i, j, none⟩) (h3 i hi)).trans (h.bel i j hi hj)⟩

/-- The Walk itself turned. -/
theorem At.turn (S : Sep E) (h : At E w mute st) (j : Nat) (x : Value) (ra' mute' : Bool) (bad' : Int) (hx : (wkC E st.ra mute st.bad).setIfInBounds j x = wkC E ra' mute' bad') :
    At E (w.setCell ⟨E.wb, j, none⟩ x) mute' { st with ra := ra', bad := bad' } ∧ Fr E w (w.setCell ⟨E.wb, j, none⟩ x) := by
  have e : w.setCell ⟨E.wb, j, none⟩ x = w.setRow E.wb (wkC E ra' mute' bad') := by rw [setCell_eq_setRow w _ j _ _ _ _ h.wk, hx]
  rw [e]
  have ho : ∀ k, k ≠ E.wb → (w.setRow E.wb (wkC E ra' mute' bad')).heap[k]? = w.heap[k]? := fun k hk => setRow_other w _ k _ hk
  have hrow : ∀ {gg m : Nat} {F : Nat → Int}, Rw w gg m F → Rw (w.setRow E.wb (wkC E ra' mute' bad')) gg m F := fun {gg m F} hr => hr.of (fun hm => by
    obtain ⟨cur, h1, _⟩ := hr hm
    exact ho gg (ne_of_types h1 h.wk (by decide)))
  refine ⟨⟨setRow_heap w _ _ _ _ _ h.wk, (ho _ (ne_of_types h.pg h.wk (by decide))).trans h.pg, (ho _ (ne_of_types h.lb h.wk (by decide))).trans h.lb, ?_, hrow h.fx, hrow h.ps, hrow h.rv, hrow h.rx, hrow h.rt⟩, ⟨rfl, rfl, rfl, by simp, fun k h1 _ _ => ho k h1⟩⟩
  exact h.ord.keep (ho _ (by have := S.o1; have := S.bw; omega)) (ho _ (by have := S.o2; have := S.bw; omega)) (fun i hi => ho _ (by have := S.o3 i hi; have := S.bw; omega))
theorem lv_set (F : Nat → Nat) (k x : Nat) : (fun j => if j = k then (x : Int) else lv F j) = lv (setF F k x) := by
  funext j; unfold lv setF; split <;> rfl
/-- A variable's level turned. -/
theorem At.setV (S : Sep E) (h : At E w mute st) {k : Nat} (hk : k < E.nv) (x : Nat) :
    At E (w.setCell ⟨E.gv, k, none⟩ (.int .i64 (x : Int))) mute { st with V := setF st.V k x } ∧ Fr E w (w.setCell ⟨E.gv, k, none⟩ (.int .i64 (x : Int))) := by
  have hnv : 0 < E.nv := by omega
  obtain ⟨cur, hc, _⟩ := h.rv hnv
  have ho : ∀ j, j ≠ E.gv → (w.setCell ⟨E.gv, k, none⟩ (.int .i64 (x : Int))).heap[j]? = w.heap[j]? := fun j hj => Below.heap_setCell w _ _ j hj
  refine ⟨⟨(ho _ (ne_of_types h.wk hc (by decide))).trans h.wk, (ho _ (ne_of_types h.pg hc (by decide))).trans h.pg, (ho _ (ne_of_types h.lb hc (by decide))).trans h.lb, ?_,
    h.fx.of (fun _ => ho _ (Ne.symm (S.vf hnv))), h.ps.of (fun hp => ho _ (Ne.symm (S.vp hnv hp))), ?_, h.rx.of (fun hp => ho _ (Ne.symm (S.vx hnv hp))), h.rt.of (fun hp => ho _ (Ne.symm (S.vt hnv hp)))⟩, ?_⟩
  · exact h.ord.keep (ho _ (by have := S.o1; have := S.bv hnv; omega)) (ho _ (by have := S.o2; have := S.bv hnv; omega)) (fun i hi => ho _ (by have := S.o3 i hi; have := S.bv hnv; omega))
  · have h2 := h.rv.set k (x : Int)
    rw [lv_set] at h2
    exact h2
  · exact ⟨rfl, rfl, rfl, by simp [World.setCell], fun j _ h2 _ => ho j (h2 hnv)⟩
/-- A context turned. -/
theorem At.setX (S : Sep E) (h : At E w mute st) {k : Nat} (hk : k < E.np) (x : Nat) :
    At E (w.setCell ⟨E.gx, k, none⟩ (.int .i64 (x : Int))) mute { st with X := setF st.X k x } ∧ Fr E w (w.setCell ⟨E.gx, k, none⟩ (.int .i64 (x : Int))) := by
  have hnp : 0 < E.np := by omega
  obtain ⟨cur, hc, _⟩ := h.rx hnp
  have ho : ∀ j, j ≠ E.gx → (w.setCell ⟨E.gx, k, none⟩ (.int .i64 (x : Int))).heap[j]? = w.heap[j]? := fun j hj => Below.heap_setCell w _ _ j hj
  refine ⟨⟨(ho _ (ne_of_types h.wk hc (by decide))).trans h.wk, (ho _ (ne_of_types h.pg hc (by decide))).trans h.pg, (ho _ (ne_of_types h.lb hc (by decide))).trans h.lb, ?_,
    h.fx.of (fun hv => ho _ (Ne.symm (S.xf hv hnp))), h.ps.of (fun _ => ho _ (Ne.symm (S.xp hnp))), h.rv.of (fun hv => ho _ (S.vx hv hnp)), ?_, h.rt.of (fun _ => ho _ (Ne.symm (S.xt hnp)))⟩, ?_⟩
  · exact h.ord.keep (ho _ (by have := S.o1; have := S.bx hnp; omega)) (ho _ (by have := S.o2; have := S.bx hnp; omega)) (fun i hi => ho _ (by have := S.o3 i hi; have := S.bx hnp; omega))
  · have h2 := h.rx.set k (x : Int)
    rw [lv_set] at h2
    exact h2
  · exact ⟨rfl, rfl, rfl, by simp [World.setCell], fun j _ _ h3 => ho j (h3 hnp).1⟩

set_option maxHeartbeats 1000000 in
theorem wjoin_any (L : Lattice E.n E.R) (hn : E.n ≤ 8) (h : At E w mute st) {a b : Nat} (ha : a < E.n) (hb : b < E.n) :
    Calls Tryz.prog 32 #[.pointer (some ⟨E.wb, 0, none⟩), .int .i64 (a : Int), .int .i64 (b : Int)] w fun e w' => e = .returned (.int .i64 (jn E.R E.n a b : Int)) ∧ w' = w := by
  have k0 := h.cP
  have k1 := h.cO
  have HO := hide h.ord
  have HJ := hide (L.jn_lt ha hb)
  clear h
  go_enter Tryz.func32, Tryz.ntmps32
  go_wp2_with fail
  refine (Join_any _ _ _ _ _ _ _ _ _ hn (unhide HO) ha hb).mono ?_
  rintro e w' ⟨rfl, rfl⟩
  rw [(unhide HJ).2.1]
  go_wp2_with fail
  go_ret
  exact ⟨rfl, rfl⟩

end Go.Proofs.YtfcflnnleadpkaaGreat

namespace Go.Proofs.YtfcflnnleadpkaaGreat
open Go.RowKit
variable {E : Env} {w w' w'' : World} {mute : Bool} {st : WS}

theorem demW_mute {R : Nat → Nat → Bool} {a b i : Nat} : demW R true st a b i = st := by unfold demW; rw [if_neg (by simp)]
theorem demW_below {R : Nat → Nat → Bool} {a b i : Nat} (h : R a b = true) : demW R mute st a b i = st := by unfold demW; rw [if_neg (by simp [h])]
theorem demW_late {R : Nat → Nat → Bool} {a b i : Nat} (h : ¬ st.bad < 0) (h2 : ¬ (i : Int) < st.bad) : demW R mute st a b i = st := by unfold demW; rw [if_neg (by omega)]
theorem demW_set {R : Nat → Nat → Bool} {a b i : Nat} (h : R a b = false) (h2 : st.bad < 0 ∨ (i : Int) < st.bad) : demW R false st a b i = { st with bad := (i : Int) } := by unfold demW; rw [if_pos ⟨rfl, h, h2⟩]
theorem wk_same : ({ st with ra := st.ra, bad := st.bad } : WS) = st := rfl

set_option maxHeartbeats 1000000 in
theorem demand_any (S : Sep E) (h : At E w mute st) {a b i : Nat} (ha : a < E.n) (hb : b < E.n) :
    Calls Tryz.prog 66 #[.pointer (some ⟨E.wb, 0, none⟩), .int .i64 (a : Int), .int .i64 (b : Int), .int .i64 (i : Int)] w fun e w' => e = .returned (.tuple #[]) ∧ At E w' mute (demW E.R mute st a b i) ∧ Fr E w w' := by
  have k0 := h.cP
  have k1 := h.cO
  have k4 := h.cMu
  have k5 := h.cBad
  have kz := h.fz 5
  have o1 := h.ord.cb
  have o2 := h.ord.row a ha
  have o3 := h.ord.bel a b ha hb
  have HH := hide h
  have HN := hide (show At E w mute st ∧ Fr E w w from ⟨h, Fr.refl _ _⟩)
  clear h
  cases mute
  · cases hr : E.R a b
    · rw [hr] at o3
      by_cases hb0 : st.bad < 0
      · have HE := hide (demW_set (st := st) (i := i) hr (Or.inl hb0))
        have q1 : decide (st.bad < 0) = true := by simpa using hb0
        have HT := hide ((unhide HH).turn S 5 (.int .i64 (i : Int)) st.ra false (i : Int) rfl)
        clear hb0
        go_enter Tryz.func66, Tryz.ntmps66
        go_wp2_with fail
        go_end0
        exact ⟨rfl, by rw [unhide HE]; exact (unhide HT).1, (unhide HT).2⟩
      · have q1 : decide (st.bad < 0) = false := by simpa using hb0
        by_cases hb1 : (i : Int) < st.bad
        · have HE := hide (demW_set (st := st) (i := i) hr (Or.inr hb1))
          have q2 : decide ((i : Int) < st.bad) = true := by simpa using hb1
          have HT := hide ((unhide HH).turn S 5 (.int .i64 (i : Int)) st.ra false (i : Int) rfl)
          clear hb0 hb1
          go_enter Tryz.func66, Tryz.ntmps66
          go_wp2_with fail
          go_end0
          exact ⟨rfl, by rw [unhide HE]; exact (unhide HT).1, (unhide HT).2⟩
        · have HE := hide (demW_late (R := E.R) (mute := false) (a := a) (b := b) hb0 hb1)
          have q2 : decide ((i : Int) < st.bad) = false := by simpa using hb1
          clear hb0 hb1
          go_enter Tryz.func66, Tryz.ntmps66
          go_wp2_with fail
          go_end0
          exact ⟨rfl, by rw [unhide HE]; exact (unhide HN).1, (unhide HN).2⟩
    · rw [hr] at o3
      have HE := hide (demW_below (st := st) (mute := false) (i := i) hr)
      go_enter Tryz.func66, Tryz.ntmps66
      go_wp2_with fail
      go_end0
      exact ⟨rfl, by rw [unhide HE]; exact (unhide HN).1, (unhide HN).2⟩
  · have HE := hide (demW_mute (st := st) (R := E.R) (a := a) (b := b) (i := i))
    go_enter Tryz.func66, Tryz.ntmps66
    go_wp2_with fail
    go_end0
    exact ⟨rfl, by rw [unhide HE]; exact (unhide HN).1, (unhide HN).2⟩

theorem atLW_mute {R : Nat → Nat → Bool} {n : Nat} {fx : Nat → Int} {low : Bool} {v a i : Nat} : atLW R n fx low true st v a i = st := by unfold atLW; rw [if_pos rfl]
theorem atLW_dem {R : Nat → Nat → Bool} {n : Nat} {fx : Nat → Int} {low : Bool} {v a i : Nat} (h : ¬ (low = true ∧ fx v < 0)) : atLW R n fx low false st v a i = demW R false st a (st.V v) i := by
  unfold atLW; rw [if_neg (by simp), if_neg h]
theorem atLW_same {R : Nat → Nat → Bool} {n : Nat} {fx : Nat → Int} {low : Bool} {v a i : Nat} (h : low = true ∧ fx v < 0) (h2 : jn R n (st.V v) a = st.V v) : atLW R n fx low false st v a i = st := by
  unfold atLW; rw [if_neg (by simp), if_pos h, if_pos h2]
theorem atLW_up {R : Nat → Nat → Bool} {n : Nat} {fx : Nat → Int} {low : Bool} {v a i : Nat} (h : low = true ∧ fx v < 0) (h2 : ¬ jn R n (st.V v) a = st.V v) : atLW R n fx low false st v a i = { st with V := setF st.V v (jn R n (st.V v) a), ra := true } := by
  unfold atLW; rw [if_neg (by simp), if_pos h, if_neg h2]

set_option maxHeartbeats 1000000 in
theorem atLeast_any (S : Sep E) (L : Lattice E.n E.R) (hn : E.n ≤ 8) (h : At E w mute st) (hr : InR E.n E.nv E.np st) {v a i : Nat} (hv : v < E.nv) (hv8 : E.nv ≤ 8) (ha : a < E.n) :
    Calls Tryz.prog 64 #[.pointer (some ⟨E.wb, 0, none⟩), .int .i64 (v : Int), .int .i64 (a : Int), .int .i64 (i : Int)] w fun e w' => e = .returned (.tuple #[]) ∧ At E w' mute (atLW E.R E.n (fixV (bt E.s) E.n) E.low mute st v a i) ∧ Fr E w w' := by
  have k0 := h.cP
  have k1 := h.cL
  have k2 := h.cLow
  have k4 := h.cMu
  have kf := h.cF
  have kv := h.cV
  rw [sl_pos (by omega)] at kf kv
  have f1 := h.fx.cell hv
  have v1 : w.cell? ⟨E.gv, v, none⟩ = some (.int .i64 (st.V v : Int)) := h.rv.cell hv
  have vz := h.rv.fz (by omega) v
  have k3 := h.cRa
  have kz := h.fz 3
  have hv' : (v : Int) < (E.nv : Int) := by omega
  have HVn := hide (hr.V v hv)
  have HH := hide h
  have HN := hide (show At E w mute st ∧ Fr E w w from ⟨h, Fr.refl _ _⟩)
  clear h hr
  cases mute
  · by_cases hlow : E.low = true ∧ fixV (bt E.s) E.n v < 0
    · have q1 : decide (fixV (bt E.s) E.n v < 0) = true := by simpa using hlow.2
      have HLO := hide hlow
      rw [hlow.1] at k2
      clear hlow
      by_cases hj : jn E.R E.n (st.V v) a = st.V v
      · have HE := hide (atLW_same (st := st) (i := i) (unhide HLO) hj)
        have q2 : (((jn E.R E.n (st.V v) a : Nat) : Int) != ((st.V v : Nat) : Int)) = false := by simp [hj]
        clear hj
        go_enter Tryz.func64, Tryz.ntmps64
        go_wp2_with fail
        refine (wjoin_any L hn (unhide HH) (unhide HVn) ha).mono ?_
        rintro e w' ⟨rfl, rfl⟩
        go_wp2_with fail
        refine bodyPost_ret (v := .tuple #[]) (results_none Tryz.results64 _ _ _) rfl ⟨rfl, ?_⟩
        rw [unhide HE]; exact unhide HN
      · have HE := hide (atLW_up (st := st) (i := i) (unhide HLO) hj)
        have q2 : (((jn E.R E.n (st.V v) a : Nat) : Int) != ((st.V v : Nat) : Int)) = true := by simp; omega
        have HT := hide ((unhide HH).setV S hv (jn E.R E.n (st.V v) a))
        clear hj
        go_enter Tryz.func64, Tryz.ntmps64
        go_wp2_with fail
        refine (wjoin_any L hn (unhide HH) (unhide HVn) ha).mono ?_
        rintro e w' ⟨rfl, rfl⟩
        generalize jn E.R E.n (st.V v) a = x at *
        have r3 := (unhide HT).1.cRa
        have rz := (unhide HT).1.fz 3
        have HT2 := hide ((unhide HT).1.turn S 3 (.bool true) true false st.bad rfl)
        go_wp2_with fail
        refine bodyPost_ret (v := .tuple #[]) (results_none Tryz.results64 _ _ _) rfl ⟨rfl, ?_⟩
        rw [unhide HE]; exact ⟨(unhide HT2).1, (unhide HT).2.trans (unhide HT2).2⟩
    · have HE := hide (atLW_dem (st := st) (R := E.R) (n := E.n) (a := a) (i := i) hlow)
      rcases Bool.eq_false_or_eq_true E.low with hl | hl
      rotate_left
      · rw [hl] at k2
        clear hlow
        go_enter Tryz.func64, Tryz.ntmps64
        go_wp2_with fail
        refine (demand_any S (unhide HH) ha (unhide HVn)).mono ?_
        rintro e w1 ⟨rfl, hd⟩
        have HD := hide hd
        clear hd
        go_wp2_with fail
        go_end0
        exact ⟨rfl, by rw [unhide HE]; exact unhide HD⟩
      · rw [hl] at k2
        have q1 : decide (fixV (bt E.s) E.n v < 0) = false := by
          simp
          rcases Int.lt_or_le (fixV (bt E.s) E.n v) 0 with h | h
          · exact absurd ⟨hl, h⟩ hlow
          · exact h
        clear hlow
        go_enter Tryz.func64, Tryz.ntmps64
        go_wp2_with fail
        refine (demand_any S (unhide HH) ha (unhide HVn)).mono ?_
        rintro e w1 ⟨rfl, hd⟩
        have HD := hide hd
        clear hd
        go_wp2_with fail
        go_end0
        exact ⟨rfl, by rw [unhide HE]; exact unhide HD⟩
  · have HE := hide (atLW_mute (st := st) (R := E.R) (n := E.n) (fx := fixV (bt E.s) E.n) (low := E.low) (v := v) (a := a) (i := i))
    go_enter Tryz.func64, Tryz.ntmps64
    go_wp2_with fail
    refine bodyPost_ret (v := .tuple #[]) (results_none Tryz.results64 _ _ _) rfl ⟨rfl, ?_⟩
    rw [unhide HE]; exact unhide HN

theorem callW_dem {R : Nat → Nat → Bool} {n : Nat} {low : Bool} {k p i : Nat} (h : ¬ (low = true ∧ mute = false)) : callW R n low mute st k p i = demW R mute st p (st.X k) i := by
  unfold callW; rw [if_neg h]
theorem callW_same {R : Nat → Nat → Bool} {n : Nat} {k p i : Nat} (h2 : jn R n (st.X k) p = st.X k) : callW R n true false st k p i = st := by
  unfold callW; rw [if_pos ⟨rfl, rfl⟩, if_pos h2]
theorem callW_up {R : Nat → Nat → Bool} {n : Nat} {k p i : Nat} (h2 : ¬ jn R n (st.X k) p = st.X k) : callW R n true false st k p i = { st with X := setF st.X k (jn R n (st.X k) p), ra := true } := by
  unfold callW; rw [if_pos ⟨rfl, rfl⟩, if_neg h2]
theorem callW_T {R : Nat → Nat → Bool} {n : Nat} {low : Bool} {k p i : Nat} : (callW R n low mute st k p i).T = st.T := by
  unfold callW demW
  repeat' split
  all_goals rfl

set_option maxHeartbeats 1000000 in
theorem call_any (S : Sep E) (L : Lattice E.n E.R) (hn : E.n ≤ 8) (h : At E w mute st) (hr : InR E.n E.nv E.np st) {k p i : Nat} (hk : k < E.np) (hp4 : E.np ≤ 4) (hp : p < E.n) :
    Calls Tryz.prog 67 #[.pointer (some ⟨E.wb, 0, none⟩), .int .i64 (k : Int), .int .i64 (p : Int), .int .i64 (i : Int)] w fun e w' => e = .returned (.int .i64 (jn E.R E.n p (st.T k) : Int)) ∧ At E w' mute (callW E.R E.n E.low mute st k p i) ∧ Fr E w w' := by
  have k1 := h.cL
  have k2 := h.cLow
  have k4 := h.cMu
  have kx := h.cX
  have kt := h.cT
  rw [sl_pos (by omega)] at kx kt
  have x1 : w.cell? ⟨E.gx, k, none⟩ = some (.int .i64 (st.X k : Int)) := h.rx.cell hk
  have xz := h.rx.fz (by omega) k
  have t1 : w.cell? ⟨E.gt, k, none⟩ = some (.int .i64 (st.T k : Int)) := h.rt.cell hk
  have k3 := h.cRa
  have kz := h.fz 3
  have hk' : (k : Int) < (E.np : Int) := by omega
  have HXn := hide (hr.X k hk)
  have HTn := hide (hr.T k hk)
  have HH := hide h
  have HN := hide (show At E w mute st ∧ Fr E w w from ⟨h, Fr.refl _ _⟩)
  have HTT := hide (callW_T (mute := mute) (st := st) (R := E.R) (n := E.n) (low := E.low) (k := k) (p := p) (i := i))
  clear h hr
  by_cases hlow : E.low = true ∧ mute = false
  · obtain ⟨hl, rfl⟩ := hlow
    rw [hl] at k2
    by_cases hj : jn E.R E.n (st.X k) p = st.X k
    · have HE := hide (show callW E.R E.n E.low false st k p i = st by rw [hl]; exact callW_same hj)
      have q2 : (((jn E.R E.n (st.X k) p : Nat) : Int) != ((st.X k : Nat) : Int)) = false := by simp [hj]
      clear hj
      go_enter Tryz.func67, Tryz.ntmps67
      go_wp2_with fail
      refine (wjoin_any L hn (unhide HH) (unhide HXn) hp).mono ?_
      rintro e w' ⟨rfl, rfl⟩
      go_wp2_with fail
      refine (wjoin_any L hn (unhide HH) hp (unhide HTn)).mono ?_
      rintro e w' ⟨rfl, rfl⟩
      go_wp2_with fail
      go_ret
      exact ⟨rfl, by rw [unhide HE]; exact unhide HN⟩
    · have HE := hide (show callW E.R E.n E.low false st k p i = { st with X := setF st.X k (jn E.R E.n (st.X k) p), ra := true } by rw [hl]; exact callW_up hj)
      have q2 : (((jn E.R E.n (st.X k) p : Nat) : Int) != ((st.X k : Nat) : Int)) = true := by simp; omega
      have HT := hide ((unhide HH).setX S hk (jn E.R E.n (st.X k) p))
      clear hj
      go_enter Tryz.func67, Tryz.ntmps67
      go_wp2_with fail
      refine (wjoin_any L hn (unhide HH) (unhide HXn) hp).mono ?_
      rintro e w' ⟨rfl, rfl⟩
      generalize jn E.R E.n (st.X k) p = x at *
      have r3 := (unhide HT).1.cRa
      have rz := (unhide HT).1.fz 3
      have HT2 := hide ((unhide HT).1.turn S 3 (.bool true) true false st.bad rfl)
      have r1 := (unhide HT2).1.cL
      have rt := (unhide HT2).1.cT
      rw [sl_pos (by omega)] at rt
      have rt1 : ((w'.setCell ⟨E.gx, k, none⟩ (.int .i64 (x : Int))).setCell ⟨E.wb, 3, none⟩ (.bool true)).cell? ⟨E.gt, k, none⟩ = some (.int .i64 (st.T k : Int)) := (unhide HT2).1.rt.cell hk
      go_wp2_with fail
      refine (wjoin_any L hn (unhide HT2).1 hp (unhide HTn)).mono ?_
      rintro e w3 ⟨rfl, rfl⟩
      go_wp2_with fail
      go_ret
      exact ⟨rfl, by rw [unhide HE]; exact ⟨(unhide HT2).1, (unhide HT).2.trans (unhide HT2).2⟩⟩
  · have HE := hide (callW_dem (st := st) (R := E.R) (n := E.n) (k := k) (p := p) (i := i) hlow)
    have HDT : Hid ((demW E.R mute st p (st.X k) i).T = st.T) := by rw [← unhide HE]; exact HTT
    rcases Bool.eq_false_or_eq_true E.low with hl | hl
    · have hmu : mute = true := by
        rcases Bool.eq_false_or_eq_true mute with e | e
        · exact e
        · exact absurd ⟨hl, e⟩ hlow
      rw [hl] at k2
      rw [hmu] at k4
      clear hlow
      go_enter Tryz.func67, Tryz.ntmps67
      go_wp2_with fail
      refine (demand_any S (unhide HH) hp (unhide HXn)).mono ?_
      rintro e w1 ⟨rfl, hd⟩
      have r1 := hd.1.cL
      have rt := hd.1.cT
      rw [sl_pos (by omega)] at rt
      have rt1 : w1.cell? ⟨E.gt, k, none⟩ = some (.int .i64 (st.T k : Int)) := by have := hd.1.rt.cell hk; rw [unhide HDT] at this; exact this
      have HD := hide hd
      clear hd
      go_wp2_with fail
      refine (wjoin_any L hn (unhide HD).1 hp (unhide HTn)).mono ?_
      rintro e w3 ⟨rfl, rfl⟩
      go_wp2_with fail
      go_ret
      exact ⟨rfl, by rw [unhide HE]; exact unhide HD⟩
    · rw [hl] at k2
      clear hlow
      go_enter Tryz.func67, Tryz.ntmps67
      go_wp2_with fail
      refine (demand_any S (unhide HH) hp (unhide HXn)).mono ?_
      rintro e w1 ⟨rfl, hd⟩
      have r1 := hd.1.cL
      have rt := hd.1.cT
      rw [sl_pos (by omega)] at rt
      have rt1 : w1.cell? ⟨E.gt, k, none⟩ = some (.int .i64 (st.T k : Int)) := by have := hd.1.rt.cell hk; rw [unhide HDT] at this; exact this
      have HD := hide hd
      clear hd
      go_wp2_with fail
      refine (wjoin_any L hn (unhide HD).1 hp (unhide HTn)).mono ?_
      rintro e w3 ⟨rfl, rfl⟩
      go_wp2_with fail
      go_ret
      exact ⟨rfl, by rw [unhide HE]; exact unhide HD⟩

end Go.Proofs.YtfcflnnleadpkaaGreat

namespace Go.Proofs.YtfcflnnleadpkaaGreat
open Go.RowKit

section
variable {c : Nat → Int} {R : Nat → Nat → Bool} {n nv : Nat} {V : Nat → Nat}

theorem scE_inv_op {f i j : Nat} (h : scE c nv (f + 1) i = (j, false)) (ho : isOp (c i) = true) : ∃ k, scE c nv f (i + 1) = (k, false) ∧ scE c nv f k = (j, false) := by
  rw [scE_op ho] at h
  cases e : (scE c nv f (i + 1)).2
  · rw [e] at h
    refine ⟨(scE c nv f (i + 1)).1, ?_, by simpa using h⟩
    exact Prod.ext rfl e
  · rw [e] at h
    simp at h
    rw [h] at e
    cases e
theorem scE_inv_leaf {f i j : Nat} (h : scE c nv (f + 1) i = (j, false)) (ho : isOp (c i) = false) : j = i + 1 ∧ (isDB (c i) 10 = true ∨ (isDB (c i) 10 = false ∧ isVar nv (c i) = true)) := by
  cases h2 : isDB (c i) 10
  · cases h3 : isVar nv (c i)
    · rw [scE_bad ho h2 h3] at h; simp at h
    · rw [scE_var ho h2 h3] at h; simp at h; exact ⟨h.symm, Or.inr ⟨rfl, rfl⟩⟩
  · rw [scE_dig ho h2] at h; simp at h; exact ⟨h.symm, Or.inl rfl⟩
theorem isVar_nat {x : Int} (h : isVar nv x = true) : ∃ k : Nat, x - 97 = (k : Int) ∧ k < nv := by
  unfold isVar at h; simp at h
  exact ⟨(x - 97).toNat, by omega, by omega⟩
theorem labE_op {f i : Nat} (h : isOp (c i) = true) : labE c R n V (f + 1) i =
      ((labE c R n V f (labE c R n V f (i + 1)).1).1, jn R n (labE c R n V f (i + 1)).2.1 (labE c R n V f (labE c R n V f (i + 1)).1).2.1,
        (if c i = 47 then jn R n (jn R n (labE c R n V f (i + 1)).2.2.1 (labE c R n V f (labE c R n V f (i + 1)).1).2.2.1) (labE c R n V f (labE c R n V f (i + 1)).1).2.1 else jn R n (labE c R n V f (i + 1)).2.2.1 (labE c R n V f (labE c R n V f (i + 1)).1).2.2.1),
        ((labE c R n V f (i + 1)).2.2.2 || (labE c R n V f (labE c R n V f (i + 1)).1).2.2.2) || (c i == 47)) := by
  simp only [labE, if_pos h]
theorem labE_dig {f i : Nat} (h : isOp (c i) = false) (h2 : isDB (c i) 10 = true) : labE c R n V (f + 1) i = (i + 1, bot R n, bot R n, false) := by
  simp [labE, h, h2]
theorem labE_var {f i : Nat} (h : isOp (c i) = false) (h2 : isDB (c i) 10 = false) : labE c R n V (f + 1) i = (i + 1, V (c i - 97).toNat, bot R n, false) := by
  simp [labE, h, h2]
/-- Where it ends; its labels are levels. -/
theorem labE_ok (L : Lattice n R) (h1 : 1 ≤ n) (hV : ∀ k, k < nv → V k < n) : ∀ f i j, scE c nv f i = (j, false) → (labE c R n V f i).1 = j ∧ (labE c R n V f i).2.1 < n ∧ (labE c R n V f i).2.2.1 < n := by
  intro f
  induction f with
  | zero => intro i j h; simp [scE] at h
  | succ f ih =>
    intro i j h
    cases ho : isOp (c i)
    · obtain ⟨rfl, h2 | ⟨h2, h3⟩⟩ := scE_inv_leaf h ho
      · rw [labE_dig ho h2]; exact ⟨rfl, bot_lt h1, bot_lt h1⟩
      · rw [labE_var ho h2]
        obtain ⟨k, e, hk⟩ := isVar_nat h3
        exact ⟨rfl, by rw [e]; exact hV k hk, bot_lt h1⟩
    · obtain ⟨k, e1, e2⟩ := scE_inv_op h ho
      obtain ⟨a1, a2, a3⟩ := ih _ _ e1
      obtain ⟨b1, b2, b3⟩ := ih _ _ e2
      rw [labE_op ho, a1]
      refine ⟨b1, (L.jn_lt a2 b2).1, ?_⟩
      simp only
      split
      · exact (L.jn_lt (L.jn_lt a3 b3).1 b2).1
      · exact (L.jn_lt a3 b3).1
end

variable {E : Env} {mute : Bool} {st : WS}

theorem results_tmp4 {fn : Func} {t u v x : Tmp} (h : fn.results = #[.tmp t, .tmp u, .tmp v, .tmp x]) (tmps : Array Value) (P : Program) (w : World) :
    (results fn tmps).run P w = .ok (.tuple #[tmps.getD t undef, tmps.getD u undef, tmps.getD v undef, tmps.getD x undef]) w := by
  simp [results, h]
def tup4 (r : Nat × Nat × Nat × Bool) : Value := .tuple #[.int .i64 (r.1 : Int), .int .i64 (r.2.1 : Int), .int .i64 (r.2.2.1 : Int), .bool r.2.2.2]

set_option maxHeartbeats 2000000 in
set_option maxRecDepth 10000 in
theorem wexpr_any (L : Lattice E.n E.R) (hn1 : 1 ≤ E.n) (hn : E.n ≤ 8) (hs : E.s.size ≤ 300) (hnv : E.nv ≤ 8) (hr : InR E.n E.nv E.np st) : ∀ (f : Nat) (w : World) (i j : Nat), At E w mute st → scE (bt E.s) E.nv f i = (j, false) →
    Calls Tryz.prog 95 #[.pointer (some ⟨E.wb, 0, none⟩), .int .i64 (i : Int)] w fun e w' => e = .returned (tup4 (labE (bt E.s) E.R E.n st.V f i)) ∧ ∃ q, w' = w.drewN q := by
  intro f
  induction f with
  | zero => intro w i j _ h; simp [scE] at h
  | succ f ih0 =>
    intro w i j h hsc
    have IH := hide ih0
    clear ih0
    have HH := hide h
    have k0 := h.cP
    have k1 := h.cL
    have kS := h.cS
    have kO := h.cO
    have HO := hide h.ord
    clear h
    have ⟨hb0, hb1⟩ := bt_bd E.s i
    cases ho : isOp (bt E.s i)
    · obtain ⟨rfl, h2⟩ := scE_inv_leaf hsc ho
      clear hsc
      rcases h2 with h2 | ⟨h2, h3⟩
      · have hi := isDB_lt h2
        have hbq := bt_eq E.s i hi
        have hi' : (i : Int) < (E.s.size : Int) := by omega
        have HE := hide (labE_dig (R := E.R) (n := E.n) (V := st.V) (f := f) ho h2)
        have HD := hide (show dgt (bt E.s i) 10 = bt E.s i - 48 by unfold dgt; rw [h2]; rfl)
        have hge : decide (0 ≤ bt E.s i - 48) = true := by have := (isDB_iff _ _).1 h2; simp; omega
        have h48 : 48 ≤ bt E.s i := ((isDB_iff _ _).1 h2).1
        clear h2
        go_enter Tryz.func95, Tryz.ntmps95
        go_wp2_with fail
        refine (Bottom_any _ _ _ _ _ _ _ hn (unhide HO)).mono ?_
        rintro e w' ⟨rfl, rfl⟩
        go_wp2_with fail
        refine (op_any _ _).mono ?_
        rintro e w' ⟨rfl, rfl⟩
        rw [ho]
        go_wp2_with fail
        refine (digit_any _ _ _ hb0 hb1).mono ?_
        rintro e w' ⟨rfl, rfl⟩
        rw [unhide HD]
        go_wp2_with fail
        refine bodyPost_ret (results_tmp4 rfl _ _ _) rfl ⟨?_, 0, rfl⟩
        rw [unhide HE]
        go_num
      · have hi := isVar_lt h3
        have hbq := bt_eq E.s i hi
        have hi' : (i : Int) < (E.s.size : Int) := by omega
        have HE := hide (labE_var (R := E.R) (n := E.n) (V := st.V) (f := f) ho h2)
        have HD := hide (show dgt (bt E.s i) 10 = -1 by unfold dgt; rw [h2]; rfl)
        obtain ⟨k, hk, hkn⟩ := isVar_nat h3
        have kv := (unhide HH).cV
        rw [sl_pos (by omega)] at kv
        have v1 : w.cell? ⟨E.gv, k, none⟩ = some (.int .i64 (st.V k : Int)) := (unhide HH).rv.cell hkn
        have hk' : (k : Int) < (E.nv : Int) := by omega
        have hwr : IntKind.i64.wrap ((i : Int) + 1) = (i : Int) + 1 := wrap_i64_id _ (by omega) (by omega)
        have hwk : IntKind.i64.wrap (bt E.s i - 97) = (k : Int) := by rw [hk]; exact wrap_i64_id _ (by omega) (by omega)
        have HK := hide (show (bt E.s i - 97).toNat = k by omega)
        have HKK := hide hk
        clear h2 h3 hk
        go_enter Tryz.func95, Tryz.ntmps95
        go_wp2_with fail
        refine (Bottom_any _ _ _ _ _ _ _ hn (unhide HO)).mono ?_
        rintro e w' ⟨rfl, rfl⟩
        go_wp2_with fail
        refine (op_any _ _).mono ?_
        rintro e w' ⟨rfl, rfl⟩
        rw [ho]
        go_wp2_with fail
        refine (digit_any _ _ _ hb0 hb1).mono ?_
        rintro e w' ⟨rfl, rfl⟩
        rw [unhide HD]
        go_wp2_with fail
        go_quiet (fail)
        go_wp2_with fail
        refine bodyPost_ret (results_tmp4 rfl _ _ _) rfl ⟨?_, _, rfl⟩
        rw [unhide HE, unhide HK]
        go_num
    · obtain ⟨k, e1, e2⟩ := scE_inv_op hsc ho
      have hi := isOp_lt ho
      have hbq := bt_eq E.s i hi
      have hi' : (i : Int) < (E.s.size : Int) := by omega
      have HE := hide (labE_op (R := E.R) (n := E.n) (V := st.V) (f := f) ho)
      have HA := hide (labE_ok (c := bt E.s) L hn1 hr.V f (i + 1) k e1)
      have HB := hide (labE_ok (c := bt E.s) L hn1 hr.V f k j e2)
      have E1 := hide e1
      have E2 := hide e2
      clear hsc e1 e2
      have HK := hide (show i + 1 ≤ k ∧ k ≤ E.s.size by
        have h1 := scE_le (bt E.s) E.nv f (i + 1)
        have h2 := scE_sz E.s E.nv f (i + 1) hi
        rw [unhide E1] at h1 h2
        exact ⟨h1, h2⟩)
      obtain ⟨r1, HR1⟩ : ∃ r1, Hid (labE (bt E.s) E.R E.n st.V f (i + 1) = r1) := ⟨_, rfl⟩
      rw [unhide HR1] at HA HE
      obtain ⟨x1, x2, x3, x4⟩ := r1
      have hx1 : x1 = k := (unhide HA).1
      subst hx1
      obtain ⟨r2, HR2⟩ : ∃ r2, Hid (labE (bt E.s) E.R E.n st.V f x1 = r2) := ⟨_, rfl⟩
      simp only [unhide HR2] at HB HE
      obtain ⟨y1, y2, y3, y4⟩ := r2
      have hy1 : y1 = j := (unhide HB).1
      subst hy1
      simp only at HA HB HE
      cases h47 : (bt E.s i == 47)
      · have HE2 := hide (show labE (bt E.s) E.R E.n st.V (f + 1) i = (y1, jn E.R E.n x2 y2, jn E.R E.n x3 y3, x4 || y4) by
          rw [unhide HE, h47, if_neg (by simpa using h47)]; simp)
        go_enter Tryz.func95, Tryz.ntmps95
        go_wp2_with fail
        refine (Bottom_any _ _ _ _ _ _ _ hn (unhide HO)).mono ?_
        rintro e w' ⟨rfl, rfl⟩
        go_wp2_with fail
        refine (op_any _ _).mono ?_
        rintro e w' ⟨rfl, rfl⟩
        rw [ho]
        go_wp2_with fail
        rw [show (i : Int) + 1 = ((i + 1 : Nat) : Int) by omega]
        refine (unhide IH _ _ _ (unhide HH) (unhide E1)).mono ?_
        rintro e w1 ⟨rfl, q1, rfl⟩
        rw [unhide HR1]
        simp only [tup4]
        go_wp2_with fail
        refine (unhide IH _ _ _ ((unhide HH).drewN q1) (unhide E2)).mono ?_
        rintro e w2 ⟨rfl, q2, rfl⟩
        rw [unhide HR2]
        simp only [tup4]
        go_wp2_with fail
        refine (wjoin_any L hn ((unhide HH).drewN (q1 + q2)) (unhide HA).2.2 (unhide HB).2.2).mono ?_
        rintro e w3 ⟨rfl, rfl⟩
        go_wp2_with fail
        refine (wjoin_any L hn ((unhide HH).drewN (q1 + q2)) (unhide HA).2.1 (unhide HB).2.1).mono ?_
        rintro e w3 ⟨rfl, rfl⟩
        cases x4 <;> cases y4
        all_goals
          go_wp2_with fail
          refine bodyPost_ret (results_tmp4 rfl _ _ _) rfl ⟨?_, _, rfl⟩
          rw [unhide HE2]
          rfl
      · have HE2 := hide (show labE (bt E.s) E.R E.n st.V (f + 1) i = (y1, jn E.R E.n x2 y2, jn E.R E.n (jn E.R E.n x3 y3) y2, true) by
          rw [unhide HE, h47, if_pos (by simpa using h47)]; simp)
        have HJ := hide (L.jn_lt (unhide HA).2.2 (unhide HB).2.2)
        go_enter Tryz.func95, Tryz.ntmps95
        go_wp2_with fail
        refine (Bottom_any _ _ _ _ _ _ _ hn (unhide HO)).mono ?_
        rintro e w' ⟨rfl, rfl⟩
        go_wp2_with fail
        refine (op_any _ _).mono ?_
        rintro e w' ⟨rfl, rfl⟩
        rw [ho]
        go_wp2_with fail
        rw [show (i : Int) + 1 = ((i + 1 : Nat) : Int) by omega]
        refine (unhide IH _ _ _ (unhide HH) (unhide E1)).mono ?_
        rintro e w1 ⟨rfl, q1, rfl⟩
        rw [unhide HR1]
        simp only [tup4]
        go_wp2_with fail
        refine (unhide IH _ _ _ ((unhide HH).drewN q1) (unhide E2)).mono ?_
        rintro e w2 ⟨rfl, q2, rfl⟩
        rw [unhide HR2]
        simp only [tup4]
        go_wp2_with fail
        refine (wjoin_any L hn ((unhide HH).drewN (q1 + q2)) (unhide HA).2.2 (unhide HB).2.2).mono ?_
        rintro e w3 ⟨rfl, rfl⟩
        go_wp2_with fail
        refine (wjoin_any L hn ((unhide HH).drewN (q1 + q2)) (unhide HJ).1 (unhide HB).2.1).mono ?_
        rintro e w3 ⟨rfl, rfl⟩
        go_wp2_with fail
        refine (wjoin_any L hn ((unhide HH).drewN (q1 + q2)) (unhide HA).2.1 (unhide HB).2.1).mono ?_
        rintro e w3 ⟨rfl, rfl⟩
        cases x4 <;> cases y4
        all_goals
          go_wp2_with fail
          refine bodyPost_ret (results_tmp4 rfl _ _ _) rfl ⟨?_, _, rfl⟩
          rw [unhide HE2]
          rfl

end Go.Proofs.YtfcflnnleadpkaaGreat

namespace Go.Proofs.YtfcflnnleadpkaaGreat
open Go.RowKit
variable {E : Env} {mute : Bool} {st : WS}

def tup3 (r : Nat × Nat × Nat) : Value := .tuple #[.int .i64 (r.1 : Int), .int .i64 (r.2.1 : Int), .int .i64 (r.2.2 : Int)]
theorem condW_ok {c : Nat → Int} {R : Nat → Nat → Bool} {n nv : Nat} {V : Nat → Nat} (L : Lattice n R) (h1 : 1 ≤ n) (hV : ∀ k, k < nv → V k < n) {f i j p : Nat} (hp : p < n) (h : scE c nv f i = (j, false)) :
    (condW c R n V f i p).1 = j ∧ (condW c R n V f i p).2.1 < n ∧ (condW c R n V f i p).2.2 < n := by
  obtain ⟨a1, a2, a3⟩ := labE_ok (c := c) L h1 hV f i j h
  unfold condW
  refine ⟨a1, (L.jn_lt hp a2).1, ?_⟩
  simp only
  split
  · exact (L.jn_lt hp a3).1
  · exact bot_lt h1

set_option maxHeartbeats 2000000 in
set_option maxRecDepth 10000 in
theorem wcond_any (L : Lattice E.n E.R) (hn1 : 1 ≤ E.n) (hn : E.n ≤ 8) (hs : E.s.size ≤ 300) (hnv : E.nv ≤ 8) (hr : InR E.n E.nv E.np st) (f : Nat) (w : World) (i j p : Nat) (h : At E w mute st) (hsc : scE (bt E.s) E.nv f i = (j, false)) (hp : p < E.n) :
    Calls Tryz.prog 63 #[.pointer (some ⟨E.wb, 0, none⟩), .int .i64 (i : Int), .int .i64 (p : Int)] w fun e w' => e = .returned (tup3 (condW (bt E.s) E.R E.n st.V f i p)) ∧ ∃ q, w' = w.drewN q := by
  have HH := hide h
  have k0 := h.cP
  have kO := h.cO
  have HO := hide h.ord
  have HA := hide (labE_ok (c := bt E.s) L hn1 hr.V f i j hsc)
  have HE := hide (show condW (bt E.s) E.R E.n st.V f i p = ((labE (bt E.s) E.R E.n st.V f i).1, jn E.R E.n p (labE (bt E.s) E.R E.n st.V f i).2.1, if (labE (bt E.s) E.R E.n st.V f i).2.2.2 = true then jn E.R E.n p (labE (bt E.s) E.R E.n st.V f i).2.2.1 else bot E.R E.n) from rfl)
  have HW := hide (wexpr_any L hn1 hn hs hnv hr f w i j h hsc)
  clear h hsc
  obtain ⟨r1, HR1⟩ : ∃ r1, Hid (labE (bt E.s) E.R E.n st.V f i = r1) := ⟨_, rfl⟩
  simp only [unhide HR1] at HA HE HW
  obtain ⟨x1, x2, x3, x4⟩ := r1
  cases x4
  · have HE2 := hide (show condW (bt E.s) E.R E.n st.V f i p = (x1, jn E.R E.n p x2, bot E.R E.n) by rw [unhide HE]; rfl)
    go_enter Tryz.func63, Tryz.ntmps63
    go_wp2_with fail
    refine (unhide HW).mono ?_
    rintro e w1 ⟨rfl, q1, rfl⟩
    simp only [tup4]
    go_wp2_with fail
    refine (wjoin_any L hn ((unhide HH).drewN q1) hp (unhide HA).2.1).mono ?_
    rintro e w3 ⟨rfl, rfl⟩
    go_wp2_with fail
    refine (Bottom_any _ _ _ _ _ _ _ hn ((unhide HH).drewN q1).ord).mono ?_
    rintro e w3 ⟨rfl, rfl⟩
    go_wp2_with fail
    go_ret3
    exact ⟨by rw [unhide HE2]; rfl, _, rfl⟩
  · have HE2 := hide (show condW (bt E.s) E.R E.n st.V f i p = (x1, jn E.R E.n p x2, jn E.R E.n p x3) by rw [unhide HE]; rfl)
    go_enter Tryz.func63, Tryz.ntmps63
    go_wp2_with fail
    refine (unhide HW).mono ?_
    rintro e w1 ⟨rfl, q1, rfl⟩
    simp only [tup4]
    go_wp2_with fail
    refine (wjoin_any L hn ((unhide HH).drewN q1) hp (unhide HA).2.1).mono ?_
    rintro e w3 ⟨rfl, rfl⟩
    go_wp2_with fail
    refine (Bottom_any _ _ _ _ _ _ _ hn ((unhide HH).drewN q1).ord).mono ?_
    rintro e w3 ⟨rfl, rfl⟩
    go_wp2_with fail
    refine (wjoin_any L hn ((unhide HH).drewN q1) hp (unhide HA).2.2).mono ?_
    rintro e w3 ⟨rfl, rfl⟩
    go_wp2_with fail
    go_ret3
    exact ⟨by rw [unhide HE2]; rfl, _, rfl⟩

end Go.Proofs.YtfcflnnleadpkaaGreat
