import Derived.Test.YtfcflnnleadpkaaFqJ
import Derived.Test.YtfcflnnleadpkaaYfJ
import Derived.Test.YtfcflnnleadpkaaFlJ
namespace Go.Proofs.Ytfcflnnleadpkaa
open Go.RowKit
variable {D : FD} {w : World} {st : WS}

theorem flL_V {nv k : Nat} (h : k < nv) : flL st nv k ++ [st.V k] = flL st nv (k + 1) := by
  unfold flL
  rw [List.range_succ, List.map_append]
  simp [flF, h]
theorem flL_X {nv k : Nat} : flL st nv (nv + 2 * k) ++ [st.X k] = flL st nv (nv + 2 * k + 1) := by
  unfold flL
  rw [List.range_succ, List.map_append]
  have e1 : nv + 2 * k - nv = 2 * k := by omega
  have e4 : ¬ nv + 2 * k < nv := by omega
  simp [flF, e1, e4]
theorem flL_T {nv k : Nat} : flL st nv (nv + 2 * k + 1) ++ [st.T k] = flL st nv (nv + 2 * (k + 1)) := by
  unfold flL
  rw [show nv + 2 * (k + 1) = nv + 2 * k + 1 + 1 by omega, List.range_succ (n := nv + 2 * k + 1), List.map_append]
  have e1 : nv + 2 * k + 1 - nv = 2 * k + 1 := by omega
  have e2 : (2 * k + 1) / 2 = k := by omega
  have e3 : (2 * k + 1) % 2 = 1 := by omega
  have e4 : ¬ nv + 2 * k + 1 < nv := by omega
  simp [flF, e1, e2, e3, e4]

set_option maxHeartbeats 2000000 in
set_option maxRecDepth 100000 in
theorem fList (O : FOk D) (h : Fl D w st) :
    Calls Try.prog 42 #[.pointer (some ⟨D.b, 0, none⟩)] w fun e w' => ∃ v, e = .returned v ∧ w'.ownsRow w.heap.size 3 1 v (D.nv + 2 * D.np) (cells (flL st D.nv (D.nv + 2 * D.np))) ∧ Below w.heap.size w w' := by
  obtain ⟨i0, hi0, hz0, hz1, hz2⟩ := info_parts info_int
  have HI := hide (And.intro hi0 (And.intro hz0 (And.intro hz1 hz2)))
  clear hi0 hz0 hz1 hz2
  have HH := hide h
  have hbz : D.b < w.heap.size := (Array.getElem?_eq_some_iff.1 h).1
  clear h
  go_enter Try.func42, Try.ntmps42
  go_wp2_with fail
  have HO0 := hide (show (w.alloc (.cells #[] 3)).ownsRow w.heap.size 3 1 (.slice (some ⟨w.heap.size, 0, none⟩) 0 0) 0 (cells (flL st D.nv 0)) from ⟨rfl, Or.inr ⟨w.heap.size, 0, #[], rfl, Nat.le_refl _, heap_alloc_last w _, Nat.le_refl _, Nat.zero_le _, rfl, rfl⟩⟩)
  have HB0 := hide (show Below w.heap.size w (w.alloc (.cells #[] 3)) from (Below.refl _ _).alloc (Nat.le_refl _) _)
  go_loopg [3, 4] D.nv (fun g ov d wr => ∃ (k q : Nat), q = g ∧ k + q = D.nv ∧ d = .int .i64 (k : Int) ∧ Below w.heap.size w wr ∧ wr.ownsRow w.heap.size 3 1 ov k (cells (flL st D.nv k)))
  case atStart => exact ⟨0, D.nv, rfl, Nat.zero_add _, rfl, unhide HB0, unhide HO0⟩
  case round =>
    obtain ⟨k, q, hq, hkg, rfl, hbr, hor⟩ := hrel
    have HBR := hide hbr
    have HOR := hide hor
    have HQ := hide hq
    have hwl := hbr.size
    have hf := (unhide HH).below hbr
    have m1 := hf.cv
    have hbz' : D.b < wr.heap.size := by omega
    have hnv8 := O.nv
    have HF := hide hf
    clear hbr hor hq
    by_cases hlt : k < D.nv
    · have hlt' : (k : Int) < (D.nv : Int) := by omega
      have hk8 : (k : Int) < 8 := by omega
      have f1 := hf.lv (k := k) (by omega)
      have hw1 : Hid (Value.int .i64 ((k : Int) + 1) = Value.int .i64 ((k + 1 : Nat) : Int)) := hide (congrArg (Value.int .i64) (by omega))
      have HOB := hide (show ∀ g, u3.ownBlock = some g → w.heap.size ≤ g ∧ g < wr.heap.size from fun g hg => (unhide HOR).lt g hg)
      clear hf
      go_wp2_with (at_builtin; refine wpList_append_lies _ rfl _ _ 46 rfl w.heap.size 3 i0 (.int .i64 0) 1 8 Try.underlying46 (unhide HI).1 (unhide HI).2.1 (unhide HI).2.2.1 (unhide HI).2.2.2 rfl (by decide) _ (k) (cells (flL st D.nv (k))) rfl ((unhide HOR).alloc _) ⟨wr.heap.size, 0, none⟩ 1 1 [.int .i64 (st.V k : Int)] rfl rfl (World.news_of_block (cs := #[.int .i64 (st.V k : Int)]) (t := 3) (fr := (0, 0)) (heap_alloc_new wr _)) (by simp [Value.oneCell']) (by omega) (by unfold maxLen; omega) (by omega) (by simp; omega) (wr.heap.size + 1) (by simp) ?_)
      intro gg cap w3 hown1 hgrow hat hlt9
      have HO2 := hide (show w3.ownsRow w.heap.size 3 1 (.slice (some ⟨gg, 0, none⟩) (k + 1) cap) (k + 1) (cells (flL st D.nv (k + 1))) by
        have h1 := hown1
        rw [← flL_V hlt, ← cells_snoc]
        exact h1)
      have HB2 := hide (show Below w.heap.size w w3 from (unhide HBR).trans ⟨hgrow.os, hgrow.tape, hgrow.output, by have := hgrow.size; simp at this; omega, fun j hj => by
        have h1 := hgrow.block j (by simp; omega) (fun e => by have := (unhide HOB j e.symm).1; omega)
        exact h1.trans (Below.heap_alloc wr _ j (by omega))⟩)
      clear hown1 hgrow hat hlt9
      go_wp2_with fail
      go_roundg (q - 1)
      case measure => have := unhide HQ; omega
      case rel => exact ⟨k + 1, q - 1, rfl, by omega, unhide hw1, unhide HB2, unhide HO2⟩
    · have hke : k = D.nv := by omega
      subst hke
      have hlt' : decide ((D.nv : Int) < (D.nv : Int)) = false := by simp
      clear hf
      go_wp2_with fail
      have HO1 := hide (show wr.ownsRow w.heap.size 3 1 u3 (D.nv + 2 * 0) (cells (flL st D.nv (D.nv + 2 * 0))) from unhide HOR)
      clear m1
      go_loopg [3, 5] D.np (fun g ov d wr => ∃ (k q : Nat), q = g ∧ k + q = D.np ∧ d = .int .i64 (k : Int) ∧ Below w.heap.size w wr ∧ wr.ownsRow w.heap.size 3 1 ov (D.nv + 2 * k) (cells (flL st D.nv (D.nv + 2 * k))))
      case atStart => exact ⟨0, D.np, rfl, Nat.zero_add _, rfl, unhide HBR, unhide HO1⟩
      case round =>
        obtain ⟨k, q, hq, hkg, rfl, hbr, hor⟩ := hrel
        have HBR := hide hbr
        have HOR := hide hor
        have HQ := hide hq
        have hwl := hbr.size
        have hf := (unhide HH).below hbr
        have m1 := hf.cp
        have hbz' : D.b < wr.heap.size := by omega
        have hnv8 := O.nv
        have hnp4 := O.np
        clear hbr hor hq
        by_cases hlt : k < D.np
        · have hlt' : (k : Int) < (D.np : Int) := by omega
          have hk4 : (k : Int) < 4 := by omega
          have f1 := hf.lx (k := k) (by omega)
          have hw1 : Hid (Value.int .i64 ((k : Int) + 1) = Value.int .i64 ((k + 1 : Nat) : Int)) := hide (congrArg (Value.int .i64) (by omega))
          have HOB := hide (show ∀ g, u3.ownBlock = some g → w.heap.size ≤ g ∧ g < wr.heap.size from fun g hg => (unhide HOR).lt g hg)
          clear hf
          go_wp2_with (at_builtin; refine wpList_append_lies _ rfl _ _ 46 rfl w.heap.size 3 i0 (.int .i64 0) 1 8 Try.underlying46 (unhide HI).1 (unhide HI).2.1 (unhide HI).2.2.1 (unhide HI).2.2.2 rfl (by decide) _ (D.nv + 2 * k) (cells (flL st D.nv (D.nv + 2 * k))) rfl ((unhide HOR).alloc _) ⟨wr.heap.size, 0, none⟩ 1 1 [.int .i64 (st.X k : Int)] rfl rfl (World.news_of_block (cs := #[.int .i64 (st.X k : Int)]) (t := 3) (fr := (0, 0)) (heap_alloc_new wr _)) (by simp [Value.oneCell']) (by omega) (by unfold maxLen; omega) (by omega) (by simp; omega) (wr.heap.size + 1) (by simp) ?_)
          intro gg cap w3 hown1 hgrow hat hlt9
          have HO2 := hide (show w3.ownsRow w.heap.size 3 1 (.slice (some ⟨gg, 0, none⟩) (D.nv + 2 * k + 1) cap) (D.nv + 2 * k + 1) (cells (flL st D.nv (D.nv + 2 * k + 1))) by
            have h1 := hown1
            rw [← flL_X, ← cells_snoc]
            exact h1)
          have HB2 := hide (show Below w.heap.size w w3 from (unhide HBR).trans ⟨hgrow.os, hgrow.tape, hgrow.output, by have := hgrow.size; simp at this; omega, fun j hj => by
            have h1 := hgrow.block j (by simp; omega) (fun e => by have := (unhide HOB j e.symm).1; omega)
            exact h1.trans (Below.heap_alloc wr _ j (by omega))⟩)
          have hf3 := (unhide HH).below (unhide HB2)
          have hsz3 := (unhide HB2).size
          have hbz3 : D.b < w3.heap.size := by omega
          have f2 := hf3.lt (k := k) (by omega)
          have HOB3 := hide (show ∀ g, (Value.slice (some ⟨gg, 0, none⟩) (D.nv + 2 * k + 1) cap).ownBlock = some g → w.heap.size ≤ g ∧ g < w3.heap.size from fun g hg => (unhide HO2).lt g hg)
          clear hown1 hgrow hat hlt9 hf3 m1 f1
          go_wp2_with (at_builtin; refine wpList_append_lies _ rfl _ _ 46 rfl w.heap.size 3 i0 (.int .i64 0) 1 8 Try.underlying46 (unhide HI).1 (unhide HI).2.1 (unhide HI).2.2.1 (unhide HI).2.2.2 rfl (by decide) _ (D.nv + 2 * k + 1) (cells (flL st D.nv (D.nv + 2 * k + 1))) rfl ((unhide HO2).alloc _) ⟨w3.heap.size, 0, none⟩ 1 1 [.int .i64 (st.T k : Int)] rfl rfl (World.news_of_block (cs := #[.int .i64 (st.T k : Int)]) (t := 3) (fr := (0, 0)) (heap_alloc_new w3 _)) (by simp [Value.oneCell']) (by omega) (by unfold maxLen; omega) (by omega) (by simp; omega) (w3.heap.size + 1) (by simp) ?_)
          intro gg2 cap2 w4 hown1 hgrow hat hlt9
          have HO4 := hide (show w4.ownsRow w.heap.size 3 1 (.slice (some ⟨gg2, 0, none⟩) (D.nv + 2 * k + 1 + 1) cap2) (D.nv + 2 * (k + 1)) (cells (flL st D.nv (D.nv + 2 * (k + 1)))) by
            have h1 := hown1
            rw [← flL_T, ← cells_snoc]
            exact h1)
          have HB4 := hide (show Below w.heap.size w w4 from (unhide HB2).trans ⟨hgrow.os, hgrow.tape, hgrow.output, by have := hgrow.size; simp at this; omega, fun j hj => by
            have h1 := hgrow.block j (by simp; omega) (fun e => by have := (unhide HOB3 j e.symm).1; omega)
            exact h1.trans (Below.heap_alloc w3 _ j (by omega))⟩)
          clear hown1 hgrow hat hlt9
          go_wp2_with fail
          go_roundg (q - 1)
          case measure => have := unhide HQ; omega
          case rel => exact ⟨k + 1, q - 1, rfl, by omega, unhide hw1, unhide HB4, unhide HO4⟩
        · have hke : k = D.np := by omega
          subst hke
          have hlt' : decide ((D.np : Int) < (D.np : Int)) = false := by simp
          clear hf
          go_wp2_with fail
          go_ret
          exact ⟨u3, rfl, unhide HOR, unhide HBR⟩

end Go.Proofs.Ytfcflnnleadpkaa

namespace Go.Proofs.Ytfcflnnleadpkaa
open Go.RowKit

set_option maxHeartbeats 2000000 in
set_option maxRecDepth 200000 in
theorem hushLabels_ok : HushLabels := by
  intro w o s
  have hz := zero_flw
  have z0 := flwC_size 0 0 L0 P0 noW noW noW false
  go_enter Try.func21, Try.ntmps21
  go_wp2_with fail
  refine (rf_any _ _ _).mono ?_
  rintro e w1 ⟨⟨C, rfl, a, p, n, hck, hsz, hall, h0, h1, hok⟩, hb⟩
  have HCK := hide hck
  have hst := store_arr size_flw (w1.alloc (.cells (flwC 0 0 L0 P0 noW noW noW false) 92)) w1.heap.size _ C (flwC_size _ _ _ _ _ _ _ _) hsz hall (heap_alloc_last w1 _)
  rw [World.setRow_alloc_new] at hst
  have c0 := get_of? h0
  have HOK := hide hok
  have HB := hide hb
  clear hck hall hok hb
  by_cases ha : a = 0
  · subst ha
    obtain ⟨hp, hR, hE, v, st, hC, u1, u2, u3⟩ := unhide HOK rfl
    have G := (mkD_ok (b := w1.heap.size) (v := v) hR hE).1
    have hnp : (rdFin s n).1 = (prPs s n).length := ((rdFin_ok (known hR hE).sz).2 hE).1
    have HFL := hide (show Fl (mkD o s n w1.heap.size v) (w1.alloc (.cells C 92)) st from by rw [hC]; exact heap_alloc_last w1 _)
    have HO := hide G.O
    have HP := hide hp
    have HU := hide (And.intro u1 (And.intro u2 u3))
    have HNP := hide hnp
    clear hp hR hE hC u1 u2 u3 G hnp
    go_wp2_with fail
    refine (fList (unhide HO) (unhide HFL)).mono ?_
    rintro e w2 ⟨lv2, rfl, hown, hb2⟩
    have HS := hide (show Sli w2 lv2 (prNv s n + 2 * (prPs s n).length) (lv (flF (ckL o s n) (prNv s n))) from by
      have hown2 : w2.ownsRow (w1.alloc (.cells C 92)).heap.size 3 1 lv2 (prNv s n + 2 * (rdFin s n).1) (cells (flL st (prNv s n) (prNv s n + 2 * (rdFin s n).1))) := hown
      rw [unhide HNP] at hown2
      refine (Sli.own (F := lv (flF st (prNv s n))) hown2 (fun k hk => ?_)).congr (fun i hi => ?_)
      · simp [cells, flL, hk, Go.Proofs.Ytfcflnnleadpkaa.lv]
      · obtain ⟨u1, u2, u3⟩ := unhide HU
        show ((flF st (prNv s n) i : Nat) : Int) = ((flF (ckL o s n) (prNv s n) i : Nat) : Int)
        have e : flF st (prNv s n) i = flF (ckL o s n) (prNv s n) i := by
          unfold flF
          by_cases h1 : i < prNv s n
          · rw [if_pos h1, if_pos h1, u1 i h1]
          · rw [if_neg h1, if_neg h1, u2 _ (by omega), u3 _ (by omega)]
        rw [e])
    have HB2 := hide ((unhide HB).trans (((Below.refl _ _).alloc (unhide HB).size _).trans (hb2.mono (by have := (unhide HB).size; simp; omega))))
    clear hown hb2
    go_wp2_with fail
    go_ret2
    exact ⟨⟨0, p, n, unhide HCK, Or.inr ⟨rfl, unhide HP, lv2, unhide HS, rfl⟩⟩, unhide HB2⟩
  · have ha' : (a != 0) = true := by simpa using ha
    go_wp2_with fail
    go_quiet (fail)
    go_wp2_with fail
    go_ret2
    exact ⟨⟨a, p, n, unhide HCK, Or.inl ⟨ha, rfl⟩⟩, below_drewN' ((unhide HB).trans ((Below.refl _ _).alloc (unhide HB).size _)) _⟩

end Go.Proofs.Ytfcflnnleadpkaa
