import Derived.Test.YtfcflnnleadpkabHcJ
import Derived.Test.YtfcflnnleadpkabVoJ
import Derived.SizedLaws
namespace Go.Proofs.Ytfcflnnleadpkab
open Go.RowKit
variable {w w' : World}

theorem CkPost_eq {o s : ByteArray} {a p a' p' : Int} {n n' : Nat} (h : CkPost o s a p n) (h' : CkPost o s a' p' n') : a' = a ∧ p' = p ∧ n' = n := by
  obtain ⟨rfl, rfl, rfl⟩ := CkPost_uniq h h'
  exact ⟨rfl, rfl, rfl⟩
set_option maxHeartbeats 3200000 in
set_option maxRecDepth 10000 in
theorem Leaves_walk (H : HushRunO) (w : World) (o s : ByteArray) {iv : Value} {m : Nat} {L : Nat → Nat} {Z : Nat → Nat → Int} (hR : RowsIn w iv m L Z) (hm : m * 24 ≤ 140737488355328) (hL : ∀ d, d < m → L d * 8 ≤ 140737488355328) (fuel : Int) :
    Calls Try.prog 3 #[.string o, .string s, iv, .int .i64 fuel] w fun e w' => e = .returned (.bool true) ∧ Below w.heap.size w w' := by
  have HC := hide H
  have HR := hide hR
  have HLL := hide hL
  obtain ⟨ia, ic, hiv, _, hrows⟩ := hR
  subst hiv
  have HROW := hide hrows
  obtain ⟨i1, hi1, hz1, hz2, hz3⟩ := info_parts info_rowsI
  have HI1 := hide (And.intro hi1 (And.intro hz1 (And.intro hz2 hz3)))
  clear hi1 hz1 hz2 hz3
  obtain ⟨i0, hi0, hy0, hy1, hy2⟩ := info_parts info_int
  have HI0 := hide (And.intro hi0 (And.intro hy0 (And.intro hy1 hy2)))
  clear hi0 hy0 hy1 hy2 H hL hrows
  go_enter Try.func3, Try.ntmps3
  go_wp2_with fail
  go_loopg [9, 10] m (fun g ov d wr => ∃ (j : Nat) (Us : List Value), j + g = m ∧ d = .int .i64 (j : Int) ∧ Below w.heap.size w wr ∧ wr.ownsRow w.heap.size 23 1 ov j Us ∧ Us.length = j ∧ Copies wr w.heap.size Us j L Z)
  case atStart => exact ⟨0, [], Nat.zero_add _, rfl, Below.refl _ _, World.ownsRow_nil _ _ _ _, rfl, fun d h => by omega⟩
  case round =>
    obtain ⟨j, Us, hjg, rfl, hbr, hor, hul, hco⟩ := hrel
    have HBR := hide hbr
    have HOR := hide hor
    have HUL := hide hul
    have HCO := hide hco
    have hwl := hbr.size
    clear hbr hor hul hco
    by_cases hlt : j < m
    · have hlt' : (j : Int) < (m : Int) := by omega
      have hw1 : Hid (Value.int .i64 ((j : Int) + 1) = Value.int .i64 ((j + 1 : Nat) : Int)) := hide (congrArg (Value.int .i64) (by omega))
      obtain ⟨ad, u, rfl, cu, hs⟩ := unhide HROW j hlt
      have cu' := keepC (unhide HBR) cu
      have hs' := hs.below (unhide HBR)
      obtain ⟨ra, rc, rfl, hr0, hrc⟩ := hs'
      have HR0 := hide hr0
      have HNEW := hide (show ∀ k v, (zC (L j) (Z j))[k]? = some v → ∃ b, ra = some b ∧ wr.cell? (b.add k) = some v by
        intro k v hk
        have hkl : k < L j := by
          rcases Nat.lt_or_ge k (L j) with hh | hh
          · exact hh
          · rw [List.getElem?_eq_none (by rw [zC_len]; exact hh)] at hk; cases hk
        rw [zC_get hkl] at hk
        obtain ⟨b, e1, e2⟩ := hrc k hkl
        exact ⟨b, e1, e2.trans hk⟩)
      have hLj := unhide HLL j hlt
      clear hs cu hr0 hrc
      go_wp2_with (at_builtin; refine wpList_append_sli rfl _ _ 23 rfl w.heap.size 3 i0 (.int .i64 0) 1 8 Try.underlying23 (unhide HI0).1 (unhide HI0).2.1 (unhide HI0).2.2.1 (unhide HI0).2.2.2 rfl (by decide) _ 0 [] rfl (World.ownsRow_nil _ _ _ _) ra (L j) rc (zC (L j) (Z j)) rfl (unhide HR0) (by simp [zC]) (unhide HNEW) (by intro u hu; simp [zC] at hu; obtain ⟨y, _, rfl⟩ := hu; rfl) (by unfold maxLen; omega) (by omega) hwl ?_)
      intro v1 w1 hown1 hgrow hat
      have HB1 : Hid (Below wr.heap.size wr w1) := hide ⟨hgrow.os, hgrow.tape, hgrow.output, hgrow.size, fun k hk => hgrow.block k hk (by simp [Value.ownBlock])⟩
      have HO1 := hide (show w1.ownsRow w.heap.size 3 1 v1 (L j) (zC (L j) (Z j)) by simpa using hown1)
      have HOR1 := hide (ownsRow_keep2 (unhide HOR) (fun g hg => (unhide HB1).block g ((unhide HOR).lt g hg).2))
      have HBW := hide ((unhide HBR).trans ((unhide HB1).mono hwl))
      have HC1 := hide ((unhide HCO).below (unhide HB1))
      have hwl1 : w.heap.size ≤ w1.heap.size := (unhide HBW).size
      obtain ⟨va, vl, vc, hv1⟩ : ∃ a l c, v1 = .slice a l c := by
        rcases (unhide HO1).2 with ⟨e, _⟩ | ⟨g, cap, cur, e, _⟩
        · exact ⟨_, _, _, e⟩
        · exact ⟨_, _, _, e⟩
      subst hv1
      have HOB := hide (show ∀ g, u9.ownBlock = some g → w.heap.size ≤ g ∧ g < w1.heap.size from fun g hg => (unhide HOR1).lt g hg)
      clear hown1 hgrow hat
      go_wp2_with (at_builtin; refine wpList_append_lies _ rfl _ _ 22 rfl w.heap.size 23 i1 (.slice none 0 0) 1 24 Try.underlying22 (unhide HI1).1 (unhide HI1).2.1 (unhide HI1).2.2.1 (unhide HI1).2.2.2 rfl (by decide) _ j Us rfl ((unhide HOR1).alloc _) ⟨w1.heap.size, 0, none⟩ 1 1 [(.slice va vl vc)] rfl rfl (World.news_of_block (cs := #[(.slice va vl vc)]) (t := 23) (fr := (0, 0)) (heap_alloc_new w1 _)) (by simp [Value.oneCell']) (by omega) (by unfold maxLen; omega) (by omega) (by simp; omega) (w1.heap.size + 1) (by simp) ?_)
      intro gg cap2 w5 hown2 hgrow hat hlt9
      have HB5 := hide (show Below w.heap.size w w5 from (unhide HBW).trans ⟨hgrow.os, hgrow.tape, hgrow.output, by have := hgrow.size; simp at this; omega, fun i hi => by
        have h1 := hgrow.block i (by simp; omega) (fun e => by have := (unhide HOB i e.symm).1; omega)
        exact h1.trans (Below.heap_alloc w1 _ i (by omega))⟩)
      have hkeep : ∀ (g : Nat) (cur : Array Value), w1.heap[g]? = some (Obj.cells cur 3 (0, 0)) → w5.heap[g]? = w1.heap[g]? := by
        intro g cur hg
        have hgl : g < w1.heap.size := (Array.getElem?_eq_some_iff.1 hg).1
        have h1 := hgrow.block g (by simp; omega) (fun e => by
          obtain ⟨cur2, hc2⟩ := ownsRow_block (unhide HOR1) e.symm
          rw [hg] at hc2
          injection hc2 with hc2
          injection hc2 with _ hc2 _
          exact absurd hc2 (by decide))
        exact h1.trans (Below.heap_alloc w1 _ g hgl)
      have HC5 := hide (((unhide HC1).keep hkeep).app (unhide HUL) (ownsRow_keep2 (unhide HO1) (fun g hg => by
        obtain ⟨cur, hc⟩ := ownsRow_block (unhide HO1) hg
        exact hkeep g cur hc)))
      have HO5 := hide hown2
      clear hown2 hgrow hat hlt9 hkeep
      go_wp2_with fail
      go_roundg (gk - 1)
      case measure => omega
      case rel => exact ⟨j + 1, Us ++ [(.slice va vl vc)], by omega, unhide hw1, unhide HB5, unhide HO5, by simp [unhide HUL], unhide HC5⟩
    · have hje : j = m := by omega
      subst hje
      have hlt' : decide ((j : Int) < (j : Int)) = false := by simp
      have HIN := hide (fun n => ((unhide HR).below (unhide HBR)).inp n)
      go_wp2_with fail
      refine ((unhide HC).one _ _ _ _ _ _ (fun n _ => unhide HIN n)).mono ?_
      rintro e w2 ⟨⟨a, p, n, xv, hck, rfl, hxo⟩, hb2⟩
      have HCK := hide hck
      have HXO := hide hxo
      have HB2 := hide hb2
      have HIN2 := hide (fun n => (unhide HIN n).below hb2)
      clear hck hxo hb2
      go_wp2_with fail
      refine ((unhide HC).one _ _ _ _ _ _ (fun n _ => unhide HIN2 n)).mono ?_
      rintro e w3 ⟨⟨a', p', n', yv, hck', rfl, hyo⟩, hb3⟩
      obtain ⟨rfl, rfl, rfl⟩ := CkPost_eq (unhide HCK) hck'
      obtain ⟨es, HES⟩ : ∃ es, Hid (lvE o s n' (inpOf j L Z) a' fuel = es) := ⟨_, rfl⟩
      obtain ⟨tt, HTT⟩ : ∃ tt : Nat, Hid (lvT o s n' (inpOf j L Z) a' fuel = tt) := ⟨_, rfl⟩
      obtain ⟨cc, HCC⟩ : ∃ cc, Hid (lvC a' fuel = cc) := ⟨_, rfl⟩
      have HEL : Hid (es.length ≤ 10000) := by rw [← unhide HES]; exact lvE_len _ _ _ _ _ _
      rw [unhide HES] at HXO hyo
      rw [unhide HTT, unhide HCC]
      have HYO := hide hyo
      have HB23 := hide ((unhide HB2).trans (hb3.mono (unhide HB2).size))
      have HX3 := hide (ownsRow_keep2 (unhide HXO) (fun g hg => hb3.block g ((unhide HXO).lt g hg).2))
      have HIN3 := hide (fun n => (unhide HIN2 n).below hb3)
      have HXL := hide (fun g hg => (unhide HXO).lt g hg)
      have HYL := hide (fun g hg => hyo.lt g hg)
      have HR3 := hide (((unhide HR).below (unhide HBR)).below (unhide HB23))
      have HC3 := hide ((unhide HCO).below (unhide HB23))
      have HOR3 := hide (ownsRow_keep2 (unhide HOR) (fun g hg => (unhide HB23).block g ((unhide HOR).lt g hg).2))
      clear hck' hyo hb3
      go_wp2_with fail
      go_loopg [18] j (fun g d wq => ∃ (k q : Nat), k + g = j ∧ d = .int .i64 (k : Int) ∧ wq = w3.drewN q)
      case atStart => exact ⟨0, 0, Nat.zero_add _, rfl, rfl⟩
      case round =>
        obtain ⟨k, q, hkg, rfl, rfl⟩ := hrel
        by_cases hk : k < j
        · have hk' : (k : Int) < (j : Int) := by omega
          have hw1 : Hid (Value.int .i64 ((k : Int) + 1) = Value.int .i64 ((k + 1 : Nat) : Int)) := hide (congrArg (Value.int .i64) (by omega))
          obtain ⟨a0, c0, e0, _, hrow⟩ := unhide HR3
          injection e0 with e01 e02 e03
          subst e03
          clear e02
          obtain ⟨ad, u, e1, c1, hs⟩ := hrow k hk
          rw [e1] at e01
          subst e01
          obtain ⟨u2, e2, ho2⟩ := unhide HC3 k hk
          have hs' : Sli (w3.drewN q) u (L k) (Z k) := hs
          have ho2' : Sli (w3.drewN q) u2 (L k) (Z k) := Sli.own (F := Z k) ho2 (fun i hi => zC_get hi)
          rcases (unhide HOR3).2 with ⟨_, e9⟩ | ⟨gb, gc, cur, e9, _, hgc, _, _, _, htk⟩
          · omega
          · subst e9
            have c2 : w3.cell? ⟨gb, k, none⟩ = some u2 := by
              have h2 : (cur.toList.take (j * 1))[k]? = some u2 := by rw [htk]; exact e2
              rw [List.getElem?_take_of_lt (by omega)] at h2
              simp only [Array.getElem?_toList] at h2
              exact (cell_of_row w3 gb k cur _ _ hgc).trans h2
            have HS1 := hide hs'
            have HS2 := hide ho2'
            have HLK := hide (unhide HLL k hk)
            obtain ⟨p1, p2, rfl, _, _⟩ := hs'
            obtain ⟨p3, p4, rfl, _, _⟩ := ho2'
            clear hrow hs ho2 e2 htk hgc
            go_wp2_with fail
            go_region_with (go_at_call 6; refine (sameInts_any (by have := unhide HLK; omega) (show Sli ((w3.drewN q).drew) _ (L k) (Z k) from unhide HS1) (show Sli ((w3.drewN q).drew) _ (L k) (Z k) from unhide HS2)).mono ?_; rintro e w7 ⟨x, rfl, hx, q7, rfl⟩)
            all_goals
              have hxt : x = true := by simpa using hx
              subst hxt
              clear hx
              go_wp2_with fail
              go_roundg (gk - 1)
              case measure => omega
              case rel => exact ⟨k + 1, q + 1 + q7, by omega, unhide hw1, rfl⟩
        · have hke : k = j := by omega
          subst hke
          have hk' : decide ((k : Int) < (k : Int)) = false := by simp
          obtain ⟨W3, HW3⟩ : ∃ W3, Hid (w3.drewN q = W3) := ⟨_, rfl⟩
          rw [unhide HW3]
          have HBW3 : Hid (Below w.heap.size w W3) := by rw [← unhide HW3]; exact hide (below_drewN2 ((unhide HBR).trans ((unhide HB23).mono (unhide HBR).size)) q)
          have HXW : Hid (W3.ownsRow wr.heap.size 35 2 xv es.length (evC es)) := by rw [← unhide HW3]; exact hide (show w3.ownsRow _ _ _ _ _ _ from unhide HX3)
          have HYW : Hid (W3.ownsRow w2.heap.size 35 2 yv es.length (evC es)) := by rw [← unhide HW3]; exact hide (show w3.ownsRow _ _ _ _ _ _ from unhide HYO)
          go_wp2_with fail
          refine (Check_any _ _ _).mono ?_
          rintro e w4 ⟨⟨ca, cp, cn, hck4, hans⟩, hb4⟩
          obtain ⟨rfl, rfl, rfl⟩ := CkPost_eq (unhide HCK) hck4
          have HX4 := hide (ownsRow_keep2 (unhide HXW) (fun g hg => hb4.block g ((unhide HXW).lt g hg).2))
          have HY4 := hide (ownsRow_keep2 (unhide HYW) (fun g hg => hb4.block g ((unhide HYW).lt g hg).2))
          have HB4 := hide ((unhide HBW3).trans (hb4.mono (unhide HBW3).size))
          obtain ⟨r1, r2, r4, he⟩ : ∃ r1 r2 r4, e = .returned (.tuple #[r1, r2, .int .i64 ca, r4]) := by
            rcases hans with ⟨_, h⟩ | ⟨h0, _, E, _, _, _, _, h⟩
            · exact ⟨_, _, _, h⟩
            · subst h0; exact ⟨_, _, _, h⟩
          subst he
          clear hck4 hans hb4
          obtain ⟨mm, HMM⟩ : ∃ mm, Hid (es.length = mm) := ⟨_, rfl⟩
          have HSX := hide (show SlE w4 xv mm (evL es) by have h := unhide HX4; rw [evC_twC, unhide HMM] at h; exact SlE.own h)
          have HSY := hide (show SlE w4 yv mm (evL es) by have h := unhide HY4; rw [evC_twC, unhide HMM] at h; exact SlE.own h)
          rw [unhide HMM] at HEL HX4 HY4
          have hmm : mm ≤ 10000 := unhide HEL
          obtain ⟨xa, xc, hxv⟩ : ∃ xa xc, xv = .slice xa mm xc := by
            rcases (unhide HX4).2 with ⟨e, h0⟩ | ⟨g, cap, cur, e, _⟩
            · exact ⟨none, 0, by rw [e, h0]⟩
            · exact ⟨_, _, e⟩
          subst hxv
          go_wp2_with fail
          refine (sameEvents_any (by omega) (unhide HSX) (unhide HSY)).mono ?_
          rintro e w5 ⟨x, rfl, hx, hb5⟩
          have hxt : x = true := hx.2 ⟨rfl, fun _ _ => rfl⟩
          subst hxt
          have HX5 := hide (ownsRow_keep2 (unhide HX4) (fun g hg => hb5.block g ((unhide HX4).lt g hg).2))
          have HY5 := hide (ownsRow_keep2 (unhide HY4) (fun g hg => hb5.block g ((unhide HY4).lt g hg).2))
          have HB5 := hide ((unhide HB4).trans (hb5.mono (unhide HB4).size))
          clear hx hb5
          go_wp2_with fail
          go_loopg [25] mm (fun g d wq => ∃ (i : Nat), i + g = mm ∧ d = .int .i64 (i : Int) ∧ KX (.slice xa mm xc) w5 wq ∧ XMark wq (.slice xa mm xc) mm i)
          case atStart => exact ⟨0, Nat.zero_add _, rfl, KX.refl _ _, XMark.start (unhide HX5)⟩
          case round =>
            obtain ⟨i, hig, rfl, hkx, hmk⟩ := hrel
            have HKX := hide hkx
            have HMK := hide hmk
            clear hkx hmk
            by_cases hi : i < mm
            · have hi' : (i : Int) < (mm : Int) := by omega
              have hw1 : Hid (Value.int .i64 ((i : Int) + 1) = Value.int .i64 ((i + 1 : Nat) : Int)) := hide (congrArg (Value.int .i64) (by omega))
              rcases (unhide HX5).2 with ⟨_, e9⟩ | ⟨gx, gc, cur0, e9, _⟩
              · omega
              · injection e9 with e91 e92 e93
                subst e91
                subst e93
                clear e92
                obtain ⟨cur, hg, hs, _⟩ := unhide HMK gx xc rfl
                obtain ⟨v0, hv0⟩ : ∃ v0, cur[i * 2]? = some v0 := ⟨_, Array.getElem?_eq_getElem (by omega)⟩
                have c1 : wr.cell? ⟨gx, i * 2, none⟩ = some v0 := (cell_of_row wr gx (i * 2) cur _ _ hg).trans hv0
                have z1 := frozen_of_row wr gx (i * 2) _ _ hg
                have HM2 := hide ((unhide HMK).set hi)
                have HK2 := hide ((unhide HKX).set (i * 2) (.int .i64 (-9)))
                clear hg hs hv0
                go_wp2_with fail
                go_roundg (gk - 1)
                case measure => omega
                case rel => exact ⟨i + 1, by omega, unhide hw1, unhide HK2, unhide HM2⟩
            · have hie : i = mm := by omega
              subst hie
              have hi' : decide ((i : Int) < (i : Int)) = false := by simp
              have HB6 := hide ((unhide HB5).trans ((unhide HKX).below (fun g hg => Nat.le_trans (unhide HBR).size (unhide HXL g hg).1)))
              have HIN6 := hide (fun n => ((unhide HR).below (unhide HB6)).inp n)
              have HY6 := hide (ownsRow_keep2 (unhide HY5) (fun g hg => (unhide HKX).block g (fun e => by
                have h1 := (unhide HXL g e.symm).2
                have h2 := (unhide HYL g hg).1
                omega)))
              go_wp2_with fail
              refine ((unhide HC).one _ _ _ _ _ _ (fun n _ => unhide HIN6 n)).mono ?_
              rintro e w7 ⟨⟨a7, p7, n7, zv, hck7, rfl, hzo⟩, hb7⟩
              obtain ⟨rfl, rfl, rfl⟩ := CkPost_eq (unhide HCK) hck7
              rw [unhide HES, unhide HMM] at hzo
              rw [unhide HTT, unhide HCC]
              have HZO := hide hzo
              have HM7 := hide ((unhide HMK).below hb7)
              have HY7 := hide (ownsRow_keep2 (unhide HY6) (fun g hg => hb7.block g ((unhide HY6).lt g hg).2))
              have HB7 := hide ((unhide HB6).trans (hb7.mono (unhide HB6).size))
              clear hck7 hzo hb7
              go_wp2_with fail
              go_loopg [29] i (fun g d wq => ∃ (y : Nat), y + g = i ∧ d = .int .i64 (y : Int) ∧ wq = w7)
              case atStart => exact ⟨0, Nat.zero_add _, rfl, rfl⟩
              case round =>
                obtain ⟨y, hyg, rfl, rfl⟩ := hrel
                by_cases hy : y < i
                · have hy' : (y : Int) < (i : Int) := by omega
                  have hw1 : Hid (Value.int .i64 ((y : Int) + 1) = Value.int .i64 ((y + 1 : Nat) : Int)) := hide (congrArg (Value.int .i64) (by omega))
                  rcases (unhide HX5).2 with ⟨_, e9⟩ | ⟨gx, gc, cur0, e9, _⟩
                  · omega
                  · injection e9 with e91 e92 e93
                    subst e91
                    subst e93
                    clear e92
                    obtain ⟨cur, hg, hs, hc9⟩ := unhide HM7 gx xc rfl
                    have c1 : wr.cell? ⟨gx, y * 2, none⟩ = some (.int .i64 (-9)) := (cell_of_row wr gx (y * 2) cur _ _ hg).trans (hc9 y hy)
                    clear hg hs hc9
                    go_wp2_with fail
                    go_roundg (gk - 1)
                    case measure => omega
                    case rel => exact ⟨y + 1, by omega, unhide hw1, rfl⟩
                · have hye : y = i := by omega
                  subst hye
                  have hy' : decide ((y : Int) < (y : Int)) = false := by simp
                  have HSY7 := hide (show SlE wr yv y (evL es) by have h := unhide HY7; rw [evC_twC, unhide HMM] at h; exact SlE.own h)
                  have HSZ7 := hide (show SlE wr zv y (evL es) by have h := unhide HZO; rw [evC_twC, unhide HMM] at h; exact SlE.own h)
                  go_wp2_with fail
                  refine (sameEvents_any (by omega) (unhide HSY7) (unhide HSZ7)).mono ?_
                  rintro e w8 ⟨x8, rfl, hx8, hb8⟩
                  have hxt8 : x8 = true := hx8.2 ⟨rfl, fun _ _ => rfl⟩
                  subst hxt8
                  have HB8 := hide ((unhide HB7).trans (hb8.mono (unhide HB7).size))
                  clear hx8 hb8
                  have htt : tt ≤ 2 := by rw [← unhide HTT]; exact lvT_le _ _ _ _ _ _
                  by_cases ha0 : a7 = 0
                  · subst ha0
                    by_cases hfu : 0 ≤ fuel ∧ fuel ≤ 10000
                    · have HFU := hide (decide_eq_true hfu)
                      have hcc : cc = 0 := by rw [← unhide HCC]; unfold lvC; rw [if_neg (by omega), if_pos hfu]
                      subst hcc
                      clear hfu
                      go_wp2_with (first | (go_at_call 9; refine (num_any _ _).mono ?_; rintro e w' ⟨rfl, rfl⟩) | (go_at_call 10; refine (fuelled_any _ _).mono ?_; rintro e w' ⟨rfl, rfl⟩; rw [unhide HFU]))
                      go_ret
                      exact ⟨rfl, unhide HB8⟩
                    · have HFU := hide (decide_eq_false hfu)
                      have hcc : cc = 7 := by rw [← unhide HCC]; unfold lvC; rw [if_neg (by omega), if_neg hfu]
                      subst hcc
                      clear hfu
                      go_wp2_with (first | (go_at_call 9; refine (num_any _ _).mono ?_; rintro e w' ⟨rfl, rfl⟩) | (go_at_call 10; refine (fuelled_any _ _).mono ?_; rintro e w' ⟨rfl, rfl⟩; rw [unhide HFU]))
                      go_ret
                      exact ⟨rfl, unhide HB8⟩
                  · have hcc : cc = a7 := by rw [← unhide HCC]; unfold lvC; rw [if_pos ha0]
                    subst hcc
                    have ha1 : decide (cc = 0) = false := by simpa using ha0
                    have ha2 : (cc == 0) = false := by simpa using ha0
                    go_wp2_with (first | (go_at_call 9; refine (num_any _ _).mono ?_; rintro e w' ⟨rfl, rfl⟩))
                    go_ret
                    exact ⟨rfl, unhide HB8⟩

end Go.Proofs.Ytfcflnnleadpkab

namespace Go.Proofs.Ytfcflnnleadpkab
open Go.RowKit Go.ChangeShapes Go.WideShapes

theorem weightsAll_mem {H : Type} {P : Program} {e : TypeId} {d : DataW H} {n : Nat} : ∀ {l : List (DataW H)}, d ∈ l → n ∈ d.weights P e → n ∈ DataW.weightsAll P e l := by
  intro l
  induction l with
  | nil => intro h; cases h
  | cons x r ih =>
    intro h hn
    simp only [DataW.weightsAll, List.mem_append]
    rcases List.mem_cons.1 h with e | e
    · subst e; exact Or.inl hn
    · exact Or.inr (ih e hn)
theorem reach_le : reachBytes ≤ 140737488355328 := by decide
/-- Inputs as they come in, each as long as memory bears. -/
theorem rows_sized {H : Type} {enc : TypeId × Value → H} {W : World} {a : Option Addr} {len cap fu : Nat} {d : DataW H} {p : List MemPlace} (hf : DataW.trod enc Try.prog W 0 (fun _ => true) true fu 22 (Value.cells (.slice a len cap)).toList = some (d, p)) (hw : ∀ n ∈ d.weights Try.prog 22, n ≤ reachBytes) :
    ∃ L Z, RowsIn W (.slice a len cap) len L Z ∧ len * 24 ≤ 140737488355328 ∧ ∀ r, r < len → L r * 8 ≤ 140737488355328 := by
  rcases Go.Deep.open_int_rows Try.underlying22 Try.underlying23 Try.underlying3 (show Try.prog.cellsOf 23 = 1 by kernel_rfl) (show Try.prog.cellsOf 3 = 1 by kernel_rfl) hf with ⟨hcs, _⟩ | ⟨a', len', cap', A, L, C, Z, hcs, _, hl, _, hx, hr⟩
  · simp [Value.cells] at hcs
    obtain ⟨rfl, rfl, rfl⟩ := hcs
    exact ⟨fun _ => 0, fun _ _ => 0, ⟨none, 0, rfl, fun _ => ⟨rfl, rfl⟩, fun d h => by omega⟩, by omega, fun r h => by omega⟩
  · simp [Value.cells] at hcs
    obtain ⟨rfl, rfl, rfl⟩ := hcs
    injection hx with hd _
    subst hd
    have hb24 : Try.prog.bytesOf 23 = 24 := by kernel_rfl
    have hb8 : Try.prog.bytesOf 3 = 8 := by kernel_rfl
    have hm := reach_le
    refine ⟨L, fun r j => (Z r).getD j 0, ⟨some a', cap, rfl, (fun h => by cases h), fun r h => ?_⟩, ?_, fun r h => ?_⟩
    · obtain ⟨h1, h2, h3, h4, _, h6, h7⟩ := hr r (by omega)
      refine ⟨a', _, rfl, h1, A r, C r, rfl, fun h => ?_, fun j hj => ?_⟩
      · have := h6 h; omega
      · cases hA : A r with
        | none => have := h6 hA; omega
        | some rad => exact ⟨rad, rfl, (h7 rad hA).2 j (by omega)⟩
    · have h9 := hw _ (by rw [DataW.weights, Try.underlying22]; exact List.mem_cons_self)
      simp only [List.length_map, List.length_range] at h9
      rw [hb24] at h9
      have : len + (cap - len) = cap := by omega
      rw [this] at h9
      omega
    · obtain ⟨h1, h2, h3, h4, _, h6, h7⟩ := hr r (by omega)
      cases hA : A r with
      | none => have := h6 hA; omega
      | some rad =>
        have h9 := hw ((Z r).length * 8) (by
          rw [DataW.weights, Try.underlying22]
          refine List.mem_cons_of_mem _ (List.mem_append_left _ (weightsAll_mem (d := Go.Deep.intRow .i64 (A r) (L r) (Z r)) (List.mem_map.2 ⟨r, List.mem_range.2 h, rfl⟩) ?_))
          rw [hA]
          unfold Go.Deep.intRow
          simp only
          rw [DataW.weights, Try.underlying23]
          have e : ((lits .i64 ((Z r).take (L r)) : List (DataW H)).length + (lits .i64 ((Z r).drop (L r)) : List (DataW H)).length) * Try.prog.bytesOf 3 = (Z r).length * 8 := by
            rw [hb8]
            simp only [lits, List.length_map, List.length_take, List.length_drop]
            omega
          rw [← e]
          exact List.mem_cons_self)
        rw [h4] at h9
        omega

end Go.Proofs.Ytfcflnnleadpkab
