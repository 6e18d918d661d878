import Derived.Test.YtfcflnnleadpkabVmJ
import Derived.Deep.Matrix
namespace Go.Proofs.Ytfcflnnleadpkab
open Go.RowKit
variable {w w' : World}

set_option maxHeartbeats 1600000 in
set_option maxRecDepth 10000 in
theorem seen_any {ob g cap n l : Nat} {rb : Nat → Nat} {R : Nat → Nat → Bool} {b : Value} {es : List (Nat × Nat)} (hn : 1 ≤ n) (hl : l < n) (hm : es.length ≤ 1000000) (ho : Ord w ob g cap n rb R) (hb : SlE w b es.length (evL es)) (hlv : ∀ e, e ∈ es → e.1 < n) :
    Calls Try.prog 15 #[.pointer (some ⟨ob, 0, none⟩), .int .i64 (l : Int), b] w fun e w' => ∃ v, e = .returned v ∧ SlE w' v (seenL R n l es).length (evL (seenL R n l es)) ∧ Below w.heap.size w w' := by
  have HBB := hide hb
  have HO := hide ho
  have HLV := hide hlv
  obtain ⟨ba, bc, rfl, _, _⟩ := hb
  obtain ⟨i0, hi0, hz0, hz1, hz2⟩ := info_parts info_hevent
  have HI := hide (And.intro hi0 (And.intro hz0 (And.intro hz1 hz2)))
  clear hi0 hz0 hz1 hz2 ho hlv
  obtain ⟨m, HM⟩ : ∃ m, Hid (es.length = m) := ⟨_, rfl⟩
  rw [unhide HM] at HBB hm
  rw [unhide HM]
  go_enter Try.func15, Try.ntmps15
  go_wp2_with fail
  go_loopg [7, 8] m (fun g ov d wr => ∃ (j : Nat), j + g = m ∧ d = .int .i64 (j : Int) ∧ Below w.heap.size w wr ∧ wr.ownsRow w.heap.size 35 2 ov (seenL R n l (es.take j)).length (evC (seenL R n l (es.take j))))
  case atStart => exact ⟨0, Nat.zero_add _, rfl, Below.refl _ _, World.ownsRow_nil _ _ _ _⟩
  case round =>
    obtain ⟨j, hjg, rfl, hbr, hor⟩ := hrel
    have HBR := hide hbr
    have HOR := hide hor
    have hwl := hbr.size
    clear hbr hor
    by_cases hlt : j < m
    · have hlt' : (j : Int) < (m : Int) := by omega
      have hje : j < es.length := by rw [unhide HM]; exact hlt
      have HSU := hide (seenL_succ (R := R) (n := n) (l := l) hje)
      obtain ⟨ba', bc', f0, _, hcb⟩ := (unhide HBB).below (unhide HBR)
      obtain ⟨bd, f1, k1, k2⟩ := hcb j hlt
      injection f0 with f00 _ f01
      subst f00 f01 f1
      obtain ⟨x1, HX1⟩ : ∃ x, Hid (es.getD j (0, 0) = x) := ⟨_, rfl⟩
      have c1 : wr.cell? (bd.add (j * 2)) = some (.int .i64 (((es.getD j (0, 0)).1 : Nat) : Int)) := k1
      have c2 : wr.cell? (bd.add (j * 2 + 1)) = some (.int .i64 (((es.getD j (0, 0)).2 : Nat) : Int)) := k2
      clear k1 k2
      have hl1 : x1.1 < n := by
        rw [← unhide HX1]
        refine unhide HLV _ ?_
        rw [List.getD_eq_getElem?_getD, List.getElem?_eq_getElem hje]
        exact List.getElem_mem _
      rw [unhide HX1] at c1 c2 HSU
      obtain ⟨l1, l2⟩ := x1
      simp only at c1 c2 HSU hl1
      have hl1' : (l1 : Int) < (n : Int) := by omega
      have hll' : (l : Int) < (n : Int) := by omega
      have hg1 : decide ((0 : Int) ≤ (l1 : Int)) = true := by simp
      have hg2 : decide ((l1 : Int) < (n : Int)) = true := by simp; omega
      have hdn : decide (l1 < n) = true := by simpa using hl1
      rw [hdn, Bool.true_and] at HSU
      have c2' : wr.cell? ⟨(bd.add (j * 2)).block, (bd.add (j * 2)).off + 1, none⟩ = some (.int .i64 (l2 : Int)) := by show wr.cell? ((bd.add (j * 2)).add 1) = _; rw [Addr.add_add]; exact c2
      have hw1 : Hid (Value.int .i64 ((j : Int) + 1) = Value.int .i64 ((j + 1 : Nat) : Int)) := hide (congrArg (Value.int .i64) (by omega))
      have HOB := hide (show ∀ g, u7.ownBlock = some g → w.heap.size ≤ g ∧ g < wr.heap.size from fun g hg => (unhide HOR).lt g hg)
      have o := (unhide HO).below hn (unhide HBR)
      have o1 := o.cn
      have o2 := o.cb
      have o3 := o.row l1 hl1
      have o4 := o.bel l1 l hl1 hl
      clear hcb o
      have hlen : (seenL R n l (es.take j)).length ≤ 1000000 := by
        have h1 := seenL_len (R := R) (n := n) (l := l) (es.take j)
        have h2 : (es.take j).length ≤ j := List.length_take_le j es
        omega
      cases hr : R l1 l
      · rw [hr] at o4
        rw [hr, if_neg (by decide), List.append_nil] at HSU
        go_wp2_with fail
        go_quiet (fail)
        go_wp2_with fail
        go_roundg (gk - 1)
        case measure => omega
        case rel => exact ⟨j + 1, by omega, unhide hw1, below_drewN2 (unhide HBR) _, by rw [unhide HSU]; exact unhide HOR⟩
      · rw [hr] at o4
        rw [hr, if_pos rfl] at HSU
        go_wp2_with fail
        go_quiet (fail)
        obtain ⟨W, HW⟩ : ∃ W, Hid (wr.drewN nq = W) := ⟨_, rfl⟩
        have HBW : Hid (Below w.heap.size w W) := by rw [← unhide HW]; exact below_drewN2 (unhide HBR) nq
        have HOW : Hid (W.ownsRow w.heap.size 35 2 u7 (seenL R n l (es.take j)).length (evC (seenL R n l (es.take j)))) := by rw [← unhide HW]; exact unhide HOR
        have d1 : W.cell? (bd.add (j * 2)) = some (.int .i64 (l1 : Int)) := by rw [← unhide HW]; exact c1
        have d2 : W.cell? ⟨(bd.add (j * 2)).block, (bd.add (j * 2)).off + 1, none⟩ = some (.int .i64 (l2 : Int)) := by rw [← unhide HW]; exact c2'
        have HWZ : Hid (W.heap.size = wr.heap.size) := by rw [← unhide HW]; rfl
        have hwl2 : w.heap.size ≤ W.heap.size := by rw [unhide HWZ]; exact hwl
        have HOB := hide (show ∀ g, u7.ownBlock = some g → w.heap.size ≤ g ∧ g < W.heap.size from fun g hg => by rw [unhide HWZ]; exact unhide HOB g hg)
        rw [unhide HW]
        clear c1 c2 c2' o1 o2 o3 o4
        generalize hSS : seenL R n l (es.take j) = SS at *
        go_wp2_with (at_builtin; refine wpList_append_lies _ rfl _ _ 24 rfl w.heap.size 35 i0 (.agg #[.int .i64 0, .int .i64 0]) 2 16 Try.underlying24 (unhide HI).1 (unhide HI).2.1 (unhide HI).2.2.1 (unhide HI).2.2.2 rfl (by decide) _ SS.length (evC SS) rfl ((unhide HOW).alloc _) ⟨W.heap.size, 0, none⟩ 1 1 [.int .i64 (l1 : Int), .int .i64 (l2 : Int)] rfl rfl (World.news_of_block (cs := #[.int .i64 (l1 : Int), .int .i64 (l2 : Int)]) (t := 35) (fr := (0, 0)) (heap_alloc_new W _)) (by simp [Value.oneCell']) (by omega) (by unfold maxLen; omega) (by omega) (by simp; omega) (W.heap.size + 1) (by simp) ?_)
        intro gg cap w3 hown1 hgrow hat hlt9
        have HO2 := hide (show w3.ownsRow w.heap.size 35 2 (.slice (some ⟨gg, 0, none⟩) (SS.length + 1) cap) (seenL R n l (es.take (j + 1))).length (evC (seenL R n l (es.take (j + 1)))) by
          rw [unhide HSU, evC_app, List.length_append]
          exact hown1)
        have HB2 := hide (show Below w.heap.size w w3 from (unhide HBW).trans ⟨hgrow.os, hgrow.tape, hgrow.output, by have := hgrow.size; simp at this; omega, fun i hi => by
          have h1 := hgrow.block i (by simp; omega) (fun e => by have := (unhide HOB i e.symm).1; omega)
          exact h1.trans (Below.heap_alloc W _ i (by omega))⟩)
        clear hown1 hgrow hat hlt9
        go_wp2_with fail
        go_roundg (gk - 1)
        case measure => omega
        case rel => exact ⟨j + 1, by omega, unhide hw1, unhide HB2, unhide HO2⟩
    · have hje : j = m := by omega
      subst hje
      have hlt' : decide ((j : Int) < (j : Int)) = false := by simp
      have HTK := hide (show es.take j = es by rw [← unhide HM]; exact List.take_length)
      rw [unhide HTK] at HOR
      go_wp2_with fail
      go_ret
      exact ⟨u7, rfl, SlE.own (by have := unhide HOR; rw [evC_twL] at this; exact this), unhide HBR⟩

set_option maxHeartbeats 1600000 in
set_option maxRecDepth 10000 in
theorem mixed_any {ob g cap n l : Nat} {rb : Nat → Nat} {R : Nat → Nat → Bool} {av bv : Value} {a b : Nat → List Nat} (hn : 1 ≤ n) (hn8 : n ≤ 8) (hl : l < n) (ho : Ord w ob g cap n rb R) (hA : InpR w av n a) (hB : InpR w bv n b) :
    Calls Try.prog 13 #[.pointer (some ⟨ob, 0, none⟩), .int .i64 (l : Int), av, bv] w fun e w' => ∃ v, e = .returned v ∧ (∀ m, InpR w' v m (mixI R n l a b)) ∧ Below w.heap.size w w' := by
  have HO := hide ho
  have HAA := hide hA
  have HBB := hide hB
  obtain ⟨aa, al, ac, rfl, _⟩ := hA
  obtain ⟨ba, bl, bc, rfl, _⟩ := hB
  obtain ⟨i0, hi0, hz0, hz1, hz2⟩ := info_parts info_rowsI
  have HI := hide (And.intro hi0 (And.intro hz0 (And.intro hz1 hz2)))
  clear hi0 hz0 hz1 hz2 ho
  go_enter Try.func13, Try.ntmps13
  go_wp2_with fail
  go_loopg [9, 10] n (fun g ov d wr => ∃ (j : Nat) (Ls : List Value), j + g = n ∧ d = .int .i64 (j : Int) ∧ Below w.heap.size w wr ∧ wr.ownsRow w.heap.size 23 1 ov j Ls ∧ Ls.length = j ∧ RowsTo w Ls j (mixI R n l a b))
  case atStart => exact ⟨0, [], Nat.zero_add _, rfl, Below.refl _ _, World.ownsRow_nil _ _ _ _, rfl, fun d h => by omega⟩
  case round =>
    obtain ⟨j, Ls, hjg, rfl, hbr, hor, hll, hrw⟩ := hrel
    have HBR := hide hbr
    have HOR := hide hor
    have HLL := hide hll
    have HRW := hide hrw
    have hwl := hbr.size
    have o := (unhide HO).below hn hbr
    have o1 := o.cn
    have o2 := o.cb
    have HOB := hide (show ∀ g, u9.ownBlock = some g → w.heap.size ≤ g ∧ g < wr.heap.size from fun g hg => (unhide HOR).lt g hg)
    clear hbr hor hll hrw
    by_cases hlt : j < n
    · have hlt' : (j : Int) < (n : Int) := by omega
      have hll' : (l : Int) < (n : Int) := by omega
      have hw1 : Hid (Value.int .i64 ((j : Int) + 1) = Value.int .i64 ((j + 1 : Nat) : Int)) := hide (congrArg (Value.int .i64) (by omega))
      have o3 := o.row j hlt
      have o4 := o.bel j l hlt hl
      clear o
      cases hr : R j l
      · rw [hr] at o4
        have HMX := hide (mixI_high (R := R) (a := a) (b := b) j hlt hr)
        by_cases hk : j < bl
        · have hk' : (j : Int) < (bl : Int) := by omega
          obtain ⟨a', len', cap', e0, hx, _⟩ := (unhide HBB).row hlt
          injection e0 with e1 e2 e3
          subst e1 e2 e3
          obtain ⟨ad, u, rfl, cu, hrow⟩ := hx hk
          obtain ⟨ra, rl, rc, Z, rfl, hc2, eL⟩ := hrow
          have HQ := hide (show RowIs w (.slice ra rl rc) (mixI R n l a b j) by rw [← unhide HMX]; exact ⟨ra, rl, rc, Z, rfl, hc2, eL⟩)
          have cu' := keepC (unhide HBR) cu
          clear hc2 eL cu hx
          go_wp2_with (at_builtin; refine wpList_append_lies _ rfl _ _ 22 rfl w.heap.size 23 i0 (.slice none 0 0) 1 24 Try.underlying22 (unhide HI).1 (unhide HI).2.1 (unhide HI).2.2.1 (unhide HI).2.2.2 rfl (by decide) _ j Ls rfl ((unhide HOR).alloc _) ⟨wr.heap.size, 0, none⟩ 1 1 [(.slice ra rl rc)] rfl rfl (World.news_of_block (cs := #[(.slice ra rl rc)]) (t := 23) (fr := (0, 0)) (heap_alloc_new wr _)) (by simp [Value.oneCell']) (by omega) (by unfold maxLen; omega) (by omega) (by simp; omega) (wr.heap.size + 1) (by simp) ?_)
          intro gg cap2 w5 hown1 hgrow hat hlt9
          have HO2 := hide hown1
          have HB5 := hide (show Below w.heap.size w w5 from (unhide HBR).trans ⟨hgrow.os, hgrow.tape, hgrow.output, by have := hgrow.size; simp at this; omega, fun i hi => by
            have h1 := hgrow.block i (by simp; omega) (fun e => by have := (unhide HOB i e.symm).1; omega)
            exact h1.trans (Below.heap_alloc wr _ i (by omega))⟩)
          clear hown1 hgrow hat hlt9
          go_wp2_with fail
          go_roundg (gk - 1)
          case measure => omega
          case rel => exact ⟨j + 1, Ls ++ [(.slice ra rl rc)], by omega, unhide hw1, unhide HB5, unhide HO2, by simp [unhide HLL], rows_app (unhide HLL) (unhide HRW) (unhide HQ)⟩
        · have hk' : decide ((j : Int) < (bl : Int)) = false := by simp; omega
          obtain ⟨a', len', cap', e0, _, hx⟩ := (unhide HBB).row hlt
          injection e0 with e1 e2 e3
          subst e1 e2 e3
          have HQ := hide (show RowIs w (.slice none 0 0) (mixI R n l a b j) by rw [← unhide HMX, hx (by omega)]; exact RowIs.nil)
          clear hx
          go_wp2_with (at_builtin; refine wpList_append_lies _ rfl _ _ 22 rfl w.heap.size 23 i0 (.slice none 0 0) 1 24 Try.underlying22 (unhide HI).1 (unhide HI).2.1 (unhide HI).2.2.1 (unhide HI).2.2.2 rfl (by decide) _ j Ls rfl ((unhide HOR).alloc _) ⟨wr.heap.size, 0, none⟩ 1 1 [(.slice none 0 0)] rfl rfl (World.news_of_block (cs := #[(.slice none 0 0)]) (t := 23) (fr := (0, 0)) (heap_alloc_new wr _)) (by simp [Value.oneCell']) (by omega) (by unfold maxLen; omega) (by omega) (by simp; omega) (wr.heap.size + 1) (by simp) ?_)
          intro gg cap2 w5 hown1 hgrow hat hlt9
          have HO2 := hide hown1
          have HB5 := hide (show Below w.heap.size w w5 from (unhide HBR).trans ⟨hgrow.os, hgrow.tape, hgrow.output, by have := hgrow.size; simp at this; omega, fun i hi => by
            have h1 := hgrow.block i (by simp; omega) (fun e => by have := (unhide HOB i e.symm).1; omega)
            exact h1.trans (Below.heap_alloc wr _ i (by omega))⟩)
          clear hown1 hgrow hat hlt9
          go_wp2_with fail
          go_roundg (gk - 1)
          case measure => omega
          case rel => exact ⟨j + 1, Ls ++ [(.slice none 0 0)], by omega, unhide hw1, unhide HB5, unhide HO2, by simp [unhide HLL], rows_app (unhide HLL) (unhide HRW) (unhide HQ)⟩
      · rw [hr] at o4
        have HMX := hide (mixI_low (R := R) (a := a) (b := b) j hlt hr)
        by_cases hk : j < al
        · have hk' : (j : Int) < (al : Int) := by omega
          obtain ⟨a', len', cap', e0, hx, _⟩ := (unhide HAA).row hlt
          injection e0 with e1 e2 e3
          subst e1 e2 e3
          obtain ⟨ad, u, rfl, cu, hrow⟩ := hx hk
          obtain ⟨ra, rl, rc, Z, rfl, hc2, eL⟩ := hrow
          have HQ := hide (show RowIs w (.slice ra rl rc) (mixI R n l a b j) by rw [← unhide HMX]; exact ⟨ra, rl, rc, Z, rfl, hc2, eL⟩)
          have cu' := keepC (unhide HBR) cu
          clear hc2 eL cu hx
          go_wp2_with (at_builtin; refine wpList_append_lies _ rfl _ _ 22 rfl w.heap.size 23 i0 (.slice none 0 0) 1 24 Try.underlying22 (unhide HI).1 (unhide HI).2.1 (unhide HI).2.2.1 (unhide HI).2.2.2 rfl (by decide) _ j Ls rfl ((unhide HOR).alloc _) ⟨wr.heap.size, 0, none⟩ 1 1 [(.slice ra rl rc)] rfl rfl (World.news_of_block (cs := #[(.slice ra rl rc)]) (t := 23) (fr := (0, 0)) (heap_alloc_new wr _)) (by simp [Value.oneCell']) (by omega) (by unfold maxLen; omega) (by omega) (by simp; omega) (wr.heap.size + 1) (by simp) ?_)
          intro gg cap2 w5 hown1 hgrow hat hlt9
          have HO2 := hide hown1
          have HB5 := hide (show Below w.heap.size w w5 from (unhide HBR).trans ⟨hgrow.os, hgrow.tape, hgrow.output, by have := hgrow.size; simp at this; omega, fun i hi => by
            have h1 := hgrow.block i (by simp; omega) (fun e => by have := (unhide HOB i e.symm).1; omega)
            exact h1.trans (Below.heap_alloc wr _ i (by omega))⟩)
          clear hown1 hgrow hat hlt9
          go_wp2_with fail
          go_roundg (gk - 1)
          case measure => omega
          case rel => exact ⟨j + 1, Ls ++ [(.slice ra rl rc)], by omega, unhide hw1, unhide HB5, unhide HO2, by simp [unhide HLL], rows_app (unhide HLL) (unhide HRW) (unhide HQ)⟩
        · have hk' : decide ((j : Int) < (al : Int)) = false := by simp; omega
          obtain ⟨a', len', cap', e0, _, hx⟩ := (unhide HAA).row hlt
          injection e0 with e1 e2 e3
          subst e1 e2 e3
          have HQ := hide (show RowIs w (.slice none 0 0) (mixI R n l a b j) by rw [← unhide HMX, hx (by omega)]; exact RowIs.nil)
          clear hx
          go_wp2_with (at_builtin; refine wpList_append_lies _ rfl _ _ 22 rfl w.heap.size 23 i0 (.slice none 0 0) 1 24 Try.underlying22 (unhide HI).1 (unhide HI).2.1 (unhide HI).2.2.1 (unhide HI).2.2.2 rfl (by decide) _ j Ls rfl ((unhide HOR).alloc _) ⟨wr.heap.size, 0, none⟩ 1 1 [(.slice none 0 0)] rfl rfl (World.news_of_block (cs := #[(.slice none 0 0)]) (t := 23) (fr := (0, 0)) (heap_alloc_new wr _)) (by simp [Value.oneCell']) (by omega) (by unfold maxLen; omega) (by omega) (by simp; omega) (wr.heap.size + 1) (by simp) ?_)
          intro gg cap2 w5 hown1 hgrow hat hlt9
          have HO2 := hide hown1
          have HB5 := hide (show Below w.heap.size w w5 from (unhide HBR).trans ⟨hgrow.os, hgrow.tape, hgrow.output, by have := hgrow.size; simp at this; omega, fun i hi => by
            have h1 := hgrow.block i (by simp; omega) (fun e => by have := (unhide HOB i e.symm).1; omega)
            exact h1.trans (Below.heap_alloc wr _ i (by omega))⟩)
          clear hown1 hgrow hat hlt9
          go_wp2_with fail
          go_roundg (gk - 1)
          case measure => omega
          case rel => exact ⟨j + 1, Ls ++ [(.slice none 0 0)], by omega, unhide hw1, unhide HB5, unhide HO2, by simp [unhide HLL], rows_app (unhide HLL) (unhide HRW) (unhide HQ)⟩
    · have hje : j = n := by omega
      subst hje
      have hlt' : decide ((j : Int) < (j : Int)) = false := by simp
      go_wp2_with fail
      go_ret
      refine ⟨u9, rfl, fun m => InpR.own (unhide HOR) (fun d hd => ?_) (fun d hd => mixI_out d hd), unhide HBR⟩
      obtain ⟨u, h1, h2⟩ := unhide HRW d hd
      exact ⟨u, h1, h2.below (unhide HBR)⟩

end Go.Proofs.Ytfcflnnleadpkab

namespace Go.Proofs.Ytfcflnnleadpkab
open Go.RowKit

theorem known_of {o s : ByteArray} {n : Nat} (h : CkPost o s 0 0 n) : Known o s n := by
  obtain ⟨hrd, hpe⟩ : ReadPost o 0 0 n ∧ prE s n = 0 := by
    rcases h with ⟨_, h⟩ | ⟨_, h, e, _⟩ | ⟨_, _, _, e, _⟩ | ⟨h1, h2, _⟩
    · exact absurd rfl h
    · exact absurd e.symm h
    · omega
    · exact ⟨h1, h2⟩
  exact known hrd hpe

set_option maxHeartbeats 3200000 in
set_option maxRecDepth 10000 in
theorem Secret_walk (H : HushRun) (HK : HushCheck) (w : World) (o s : ByteArray) (l : Int) {av bv : Value} {a b : Nat → List Nat} (hA : ∀ n, n ≤ 8 → InpR w av n a) (hB : ∀ n, n ≤ 8 → InpR w bv n b) (f g : Int) :
    Calls Try.prog 4 #[.string o, .string s, .int .i64 l, av, bv, .int .i64 f, .int .i64 g] w fun e w' => e = .returned (.bool true) ∧ Below w.heap.size w w' := by
  have HC := hide H
  have HCK := hide HK
  have HIA := hide hA
  have HIB := hide hB
  clear H HK hA hB
  have hnil : ∀ w, (binOp .eql 24 (.slice none 0 0) (.slice none 0 0)).run Try.prog w = .ok (.bool true) w := fun w => Lib.run_eql_slice_nil w _ _ none 0 0 0 0 Try.underlying24
  go_enter Try.func4, Try.ntmps4
  go_wp2_with fail
  refine (Read_any _ _).mono ?_
  rintro e w1 ⟨⟨c, q, k, hrd, hans⟩, hb1⟩
  have HRD := hide hrd
  have HB1 := hide hb1
  clear hrd hb1
  rcases hans with ⟨h0, rfl⟩ | ⟨h0, hq0, h1, h8, ob, gb, cap, rb, hob, hord, rfl⟩
  · have h0' : decide (c = 0) = false := by simpa using h0
    go_wp2_with fail
    refine (unhide HCK _ _ _).mono ?_
    rintro e w2 ⟨⟨a, p, n, hr, rfl⟩, hb2⟩
    obtain ⟨rfl, rfl, rfl⟩ := CkPost_uniq (Or.inl ⟨unhide HRD, h0⟩) hr
    have HB2 := hide ((unhide HB1).trans (hb2.mono (unhide HB1).size))
    clear hr hb2
    go_wp2_with (go_at_call 9; refine (num_any _ _).mono ?_; rintro e w' ⟨rfl, rfl⟩)
    go_ret
    exact ⟨rfl, unhide HB2⟩
  · subst h0 hq0
    have HORD := hide hord
    clear hord
    go_wp2_with fail
    refine (unhide HCK _ _ _).mono ?_
    rintro e w2 ⟨⟨ck, p, n, hr, rfl⟩, hb2⟩
    have hnk : n = k := by
      rcases hr with ⟨h, h'⟩ | ⟨h, _⟩ | ⟨h, _⟩ | ⟨h, _⟩ <;> exact (ReadPost_uniq h (unhide HRD)).2.2
    subst hnk
    have HR := hide hr
    have HB2 := hide ((unhide HB1).trans (hb2.mono (unhide HB1).size))
    have HO2 := hide ((unhide HORD).below h1 hb2)
    have HA2 := hide (fun n hn => (unhide HIA n hn).below (unhide HB2))
    have HBB2 := hide (fun n hn => (unhide HIB n hn).below (unhide HB2))
    have cn2 := (unhide HO2).cn
    clear hr hb2
    by_cases hok : (0 ≤ l ∧ l < (n : Int)) ∧ (0 ≤ f ∧ f ≤ 10000) ∧ (0 ≤ g ∧ g ≤ 10000) ∧ ck = 0
    · obtain ⟨⟨hl0, hl1⟩, ⟨hf0, hf1⟩, ⟨hg0, hg1⟩, rfl⟩ := hok
      have hp : p = 0 := by
        rcases unhide HR with ⟨h, h'⟩ | ⟨h, h', e, _⟩ | ⟨_, _, _, e, _⟩ | ⟨_, _, _, _, h⟩
        · exact absurd rfl h'
        · exact absurd e.symm h'
        · omega
        · exact h
      subst hp
      obtain ⟨L, rfl⟩ : ∃ k : Nat, l = (k : Int) := ⟨l.toNat, by omega⟩
      obtain ⟨ff, rfl⟩ : ∃ k : Nat, f = (k : Int) := ⟨f.toNat, by omega⟩
      obtain ⟨gg, rfl⟩ : ∃ k : Nat, g = (k : Int) := ⟨g.toNat, by omega⟩
      have hff : ff ≤ 10000 := by omega
      have hgg : gg ≤ 10000 := by omega
      have hL : L < n := by omega
      have HF1 := hide (show decide (0 ≤ (ff : Int) ∧ (ff : Int) ≤ 10000) = true by simp; omega)
      have HG1 := hide (show decide (0 ≤ (gg : Int) ∧ (gg : Int) ≤ 10000) = true by simp; omega)
      have hl2 : decide ((L : Int) < 0) = false := by simp
      have hl3 : decide ((n : Int) ≤ (L : Int)) = false := by simp; omega
      go_wp2_with (first | (go_at_call 9; refine (num_any _ _).mono ?_; rintro e w' ⟨rfl, rfl⟩) | (go_at_call 10; refine (fuelled_any _ _).mono ?_; rintro e w' ⟨rfl, rfl⟩; first | rw [unhide HF1] | rw [unhide HG1]))
      clear cn2
      refine (mixed_any h1 h8 hL (unhide HO2) (unhide HA2 n h8) (unhide HBB2 n h8)).mono ?_
      rintro e w3 ⟨mv, rfl, hmv, hb3⟩
      have HMV := hide hmv
      have HB3 := hide ((unhide HB2).trans (hb3.mono (unhide HB2).size))
      have HO3 := hide ((unhide HO2).below h1 hb3)
      have HA3 := hide (fun n hn => (unhide HA2 n hn).below hb3)
      clear hmv hb3
      go_wp2_with fail
      refine ((unhide HC).ok (unhide HR) hff (unhide HA3)).mono ?_
      rintro e w4 ⟨xv, rfl, hxv, hb4⟩
      have HXV := hide hxv
      have HB4 := hide ((unhide HB3).trans (hb4.mono (unhide HB3).size))
      have HO4 := hide ((unhide HO3).below h1 hb4)
      have HM4 := hide (fun m => (unhide HMV m).below hb4)
      clear hxv hb4
      go_wp2_with fail
      refine ((unhide HC).ok (unhide HR) hgg (fun m _ => unhide HM4 m)).mono ?_
      rintro e w5 ⟨yv, rfl, hyv, hb5⟩
      have HYV := hide hyv
      have HB5 := hide ((unhide HB4).trans (hb5.mono (unhide HB4).size))
      have HO5 := hide ((unhide HO4).below h1 hb5)
      have HX5 := hide ((unhide HXV).below hb5)
      clear hyv hb5
      have HSEC := hide (rnR_mixed (f := ff) (g := gg) (a := a) (b := b) (unhide HR) hL)
      have hlx : (rnR o s n a ff).1.out.length ≤ 1000000 := by have := rnR_len o s n a ff; omega
      have hly : (rnR o s n (mixI (cl o n) n L a b) gg).1.out.length ≤ 1000000 := by have := rnR_len o s n (mixI (cl o n) n L a b) gg; omega
      have HSX := hide (rnR_sane (f := ff) (known_of (unhide HR)) (unhide HA2 n h8).lt)
      have HSY := hide (rnR_sane (f := gg) (known_of (unhide HR)) (unhide HM4 n).lt)
      generalize (rnR o s n a ff).1.out = xs at *
      generalize (rnR o s n (mixI (cl o n) n L a b) gg).1.out = ys at *
      have HLX := hide hlx
      have HLY := hide hly
      go_wp2_with fail
      refine (valid_any hlx (unhide HO5).cn (unhide HX5)).mono ?_
      rintro e w6 ⟨x1, rfl, hx1, q1, rfl⟩
      have hx1t : x1 = true := hx1.2 (evL_ok (unhide HSX))
      subst hx1t
      clear hx1
      go_wp2_with fail
      refine (valid_any (w := w5.drewN q1) hly (show (w5.drewN q1).cell? ⟨ob, 0, none⟩ = some (.int .i64 (n : Int)) from (unhide HO5).cn) (show SlE (w5.drewN q1) yv ys.length (evL ys) from unhide HYV)).mono ?_
      rintro e w6 ⟨x2, rfl, hx2, q2, rfl⟩
      have hx2t : x2 = true := hx2.2 (evL_ok (unhide HSY))
      subst hx2t
      clear hx2
      obtain ⟨W, HW⟩ : ∃ W, Hid ((w5.drewN q1).drewN q2 = W) := ⟨_, rfl⟩
      rw [unhide HW]
      have HBW : Hid (Below w.heap.size w W) := by rw [← unhide HW]; exact below_drewN2 (below_drewN2 (unhide HB5) q1) q2
      have HOW : Hid (Ord W ob gb cap n rb (cl o n)) := by rw [← unhide HW]; exact hide ⟨(unhide HO5).cn, (unhide HO5).cb, (unhide HO5).row, (unhide HO5).bel⟩
      have HXW : Hid (SlE W xv xs.length (evL xs)) := by rw [← unhide HW]; exact hide (show SlE ((w5.drewN q1).drewN q2) xv xs.length (evL xs) from unhide HX5)
      have HYW : Hid (SlE W yv ys.length (evL ys)) := by rw [← unhide HW]; exact hide (show SlE ((w5.drewN q1).drewN q2) yv ys.length (evL ys) from unhide HYV)
      go_wp2_with (go_at_call 9; refine (num_any _ _).mono ?_; rintro e w' ⟨rfl, rfl⟩)
      refine (seen_any h1 hL (unhide HLX) (unhide HOW) (unhide HXW) (fun e he => (unhide HSX e he).1)).mono ?_
      rintro e w7 ⟨uv, rfl, huv, hb7⟩
      have HUV := hide huv
      have HB7 := hide ((unhide HBW).trans (hb7.mono (unhide HBW).size))
      have HO7 := hide ((unhide HOW).below h1 hb7)
      have HY7 := hide ((unhide HYW).below hb7)
      clear huv hb7
      go_wp2_with fail
      refine (seen_any h1 hL (unhide HLY) (unhide HO7) (unhide HY7) (fun e he => (unhide HSY e he).1)).mono ?_
      rintro e w8 ⟨vv, rfl, hvv, hb8⟩
      have HVV := hide hvv
      have HB8 := hide ((unhide HB7).trans (hb8.mono (unhide HB7).size))
      have HU8 := hide ((unhide HUV).below hb8)
      clear hvv hb8
      have HLU := hide (Nat.le_trans (seenL_len (R := cl o n) (n := n) (l := L) xs) (unhide HLX))
      have HLV := hide (Nat.le_trans (seenL_len (R := cl o n) (n := n) (l := L) ys) (unhide HLY))
      generalize seenL (cl o n) n L xs = us at *
      generalize seenL (cl o n) n L ys = vs at *
      go_wp2_with fail
      refine (begins_any (unhide HLU) (unhide HU8) (unhide HVV)).mono ?_
      rintro e w9 ⟨x3, rfl, hx3, hb9⟩
      have HX3 := hide hx3
      have HB9 := hide ((unhide HB8).trans (hb9.mono (unhide HB8).size))
      have HU9 := hide ((unhide HU8).below hb9)
      have HV9 := hide ((unhide HVV).below hb9)
      clear hx3 hb9
      go_wp2_with fail
      refine (begins_any (unhide HLV) (unhide HV9) (unhide HU9)).mono ?_
      rintro e w10 ⟨x4, rfl, hx4, hb10⟩
      have HX4 := hide hx4
      have HB10 := hide ((unhide HB9).trans (hb10.mono (unhide HB9).size))
      clear hx4 hb10
      have hor : x3 = true ∨ x4 = true := by
        rcases unhide HSEC with h | h
        · exact Or.inl ((unhide HX3).2 (evL_pre h))
        · exact Or.inr ((unhide HX4).2 (evL_pre h))
      cases x3
      · have hx4t : x4 = true := by rcases hor with h | h; cases h; exact h
        subst hx4t
        go_wp2_with fail
        go_ret
        exact ⟨rfl, unhide HB10⟩
      · go_wp2_with fail
        go_ret
        exact ⟨rfl, unhide HB10⟩
    · have hcase : (decide (l < 0) = true) ∨ (decide (l < 0) = false ∧ decide ((n : Int) ≤ l) = true) ∨ (decide (l < 0) = false ∧ decide ((n : Int) ≤ l) = false ∧ Hid (decide (0 ≤ f ∧ f ≤ 10000) = false)) ∨
          (decide (l < 0) = false ∧ decide ((n : Int) ≤ l) = false ∧ Hid (decide (0 ≤ f ∧ f ≤ 10000) = true) ∧ Hid (decide (0 ≤ g ∧ g ≤ 10000) = false)) ∨
          (decide (l < 0) = false ∧ decide ((n : Int) ≤ l) = false ∧ Hid (decide (0 ≤ f ∧ f ≤ 10000) = true) ∧ Hid (decide (0 ≤ g ∧ g ≤ 10000) = true) ∧ decide (ck = 0) = false ∧ (ck != 0) = true) := by
        by_cases c1 : l < 0
        · exact Or.inl (by simpa using c1)
        · by_cases c2 : (n : Int) ≤ l
          · exact Or.inr (Or.inl ⟨by simpa using c1, by simpa using c2⟩)
          · by_cases c3 : 0 ≤ f ∧ f ≤ 10000
            · by_cases c4 : 0 ≤ g ∧ g ≤ 10000
              · exact Or.inr (Or.inr (Or.inr (Or.inr ⟨by simpa using c1, by simpa using c2, hide (decide_eq_true c3), hide (decide_eq_true c4), decide_eq_false (fun e => hok ⟨⟨by omega, by omega⟩, c3, c4, e⟩), bne_iff_ne.2 (fun e => hok ⟨⟨by omega, by omega⟩, c3, c4, e⟩)⟩)))
              · exact Or.inr (Or.inr (Or.inr (Or.inl ⟨by simpa using c1, by simpa using c2, hide (decide_eq_true c3), hide (decide_eq_false c4)⟩)))
            · exact Or.inr (Or.inr (Or.inl ⟨by simpa using c1, by simpa using c2, hide (decide_eq_false c3)⟩))
      clear hok
      have HBAD : Hid (∀ w' : World, Below w2.heap.size w2 w' → Calls Try.prog 5 #[.string o, .string s, av, .int .i64 (-1)] w' fun e w'' => ∃ x, x ≠ 0 ∧ e = .returned (.tuple #[.slice none 0 0, .int .i64 0, .int .i64 x]) ∧ Below w'.heap.size w' w'') :=
        hide (fun w' hb => (unhide HC).bad (unhide HR) (Or.inr (by omega)) (fun m hm => (unhide HA2 m hm).below hb))
      rcases hcase with c1 | ⟨c1, c2⟩ | ⟨c1, c2, c3⟩ | ⟨c1, c2, c3, c4⟩ | ⟨c1, c2, c3, c4, c5, c6⟩
      all_goals
        go_wp2_with (first | (go_at_call 9; refine (num_any _ _).mono ?_; rintro e w' ⟨rfl, rfl⟩) | (go_at_call 10; refine (fuelled_any _ _).mono ?_; rintro e w' ⟨rfl, rfl⟩; first | rw [unhide c3] | rw [unhide c4]))
        refine (unhide HBAD _ (Below.refl _ _)).mono ?_
        rintro e w3 ⟨x, hx, rfl, hb3⟩
        have HB3 := hide ((unhide HB2).trans (hb3.mono (unhide HB2).size))
        have hx' : decide (x = 0) = false := by simpa using hx
        have hx2 : (x != 0) = true := by simpa using hx
        clear hb3
        go_wp2_with (go_at_call 9; refine (num_any _ _).mono ?_; rintro e w' ⟨rfl, rfl⟩)
        go_ret
        exact ⟨rfl, unhide HB3⟩

end Go.Proofs.Ytfcflnnleadpkab

namespace Go.Proofs.Ytfcflnnleadpkab
open Go.RowKit Go.ChangeShapes Go.WideShapes

/-- Inputs as they come in. -/
theorem rows_open {H : Type} {enc : TypeId × Value → H} {W : World} {a : Option Addr} {len cap fu : Nat} {x : DataW H × List MemPlace} (hf : DataW.trod enc Try.prog W 0 (fun _ => true) true fu 22 (Value.cells (.slice a len cap)).toList = some x) :
    ∃ inp, (∀ n, n ≤ 8 → InpR W (.slice a len cap) n inp) ∧ Room W (.slice a len cap) := by
  rcases Go.Deep.open_int_rows Try.underlying22 Try.underlying23 Try.underlying3 (show Try.prog.cellsOf 23 = 1 by kernel_rfl) (show Try.prog.cellsOf 3 = 1 by kernel_rfl) hf with ⟨hcs, _⟩ | ⟨a', len', cap', A, L, C, Z, hcs, _, hl, _, _, hr⟩
  · simp [Value.cells] at hcs
    obtain ⟨rfl, rfl, rfl⟩ := hcs
    exact ⟨fun _ => [], fun n _ => ⟨none, 0, 0, rfl, fun d _ => ⟨fun h => by omega, fun _ => rfl⟩⟩, fun ad len cap d ra rl rc e => by cases e⟩
  · simp [Value.cells] at hcs
    obtain ⟨rfl, rfl, rfl⟩ := hcs
    refine ⟨fun d => if d < len then (List.range (L d)).map (fun j => ((Z d).getD j 0 % 65536).toNat) else [], fun n _ => ⟨some a', len, cap, rfl, fun d _ => ⟨fun h => ?_, fun h => if_neg (by omega)⟩⟩, fun ad len' cap' d ra rl rc e hd hc => ?_⟩
    · obtain ⟨h1, h2, h3, h4, _, h6, h7⟩ := hr d (by omega)
      refine ⟨a', A d, L d, C d, fun j => (Z d).getD j 0, rfl, h1, fun j hj => ?_, if_pos h⟩
      cases hA : A d with
      | none => have := h6 hA; omega
      | some rad => exact ⟨rad, rfl, (h7 rad hA).2 j (by omega)⟩
    · injection e with e1 e2 e3
      injection e1 with e1
      subst e1 e2 e3
      obtain ⟨h1, h2, _⟩ := hr d (by omega)
      rw [h1] at hc
      injection hc with hc
      injection hc with c1 c2 c3
      omega
/-- A list of numbers as it comes in. -/
theorem row_open {H : Type} {enc : TypeId × Value → H} {W : World} {a : Option Addr} {len cap fu : Nat} {x : DataW H × List MemPlace} (hf : DataW.trod enc Try.prog W 0 (fun _ => true) true fu 23 (Value.cells (.slice a len cap)).toList = some x) :
    ∃ L, RowIs W (.slice a len cap) L := by
  rcases open_ints Try.underlying23 Try.underlying3 (show Try.prog.cellsOf 3 = 1 by kernel_rfl) hf with ⟨hcs, _⟩ | ⟨a', len', cap', zs, hcs, _, hl, _, hz, _, hcell, _⟩
  · simp [Value.cells] at hcs
    obtain ⟨rfl, rfl, rfl⟩ := hcs
    exact ⟨[], RowIs.nil⟩
  · simp [Value.cells] at hcs
    obtain ⟨rfl, rfl, rfl⟩ := hcs
    simp only [if_true] at hz
    exact ⟨_, some a', len, cap, fun i => zs.getD i 0, rfl, fun j hj => ⟨a', rfl, hcell j (by omega)⟩, rfl⟩

end Go.Proofs.Ytfcflnnleadpkab
