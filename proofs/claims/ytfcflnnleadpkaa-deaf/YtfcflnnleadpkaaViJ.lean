import Derived.Test.YtfcflnnleadpkaaVgJ
namespace Go.Proofs.Ytfcflnnleadpkaa
open Go.RowKit
variable {w w' : World}

set_option maxHeartbeats 1600000 in
set_option maxRecDepth 10000 in
theorem Deaf_walk (H : HushRun) (HK : HushCheck) (w : World) (o s : ByteArray) {iv ev : Value} {inp : Nat → List Nat} {E : List Nat} {fuel : Int} (hI : ∀ n, n ≤ 8 → InpR w iv n inp) (hE : RowIs w ev E) (hR : Room w iv) :
    Calls Try.prog 13 #[.string o, .string s, iv, ev, .int .i64 fuel] w fun e w' => e = .returned (.bool true) ∧ Below w.heap.size w w' := by
  have HC := hide H
  have HCK := hide HK
  have HIN := hide hI
  have HE := hide hE
  have HRM := hide hR
  clear H hI hE hR HK
  go_enter Try.func13, Try.ntmps13
  go_wp2_with fail
  refine (Read_any _ _).mono ?_
  rintro e w1 ⟨⟨c, q, k, hrd, hans⟩, hb1⟩
  have HRD := hide hrd
  have HB1 := hide hb1
  have HI1 := hide (fun n hn => (unhide HIN n hn).below hb1)
  have HE1 := hide ((unhide HE).below hb1)
  clear hrd hb1
  rcases hans with ⟨h0, rfl⟩ | ⟨h0, hq0, h1, h8, ob, gb, cap, rb, hob, hord, rfl⟩
  · have h0' : decide (c = 0) = false := by simpa using h0
    go_wp2_with fail
    refine (unhide HCK _ _ _).mono ?_
    rintro e w2 ⟨⟨a, p, n, hr, rfl⟩, hb2⟩
    obtain ⟨rfl, rfl, rfl⟩ := CkPost_uniq (Or.inl ⟨unhide HRD, h0⟩) hr
    have HB2 := hide ((unhide HB1).trans (hb2.mono (unhide HB1).size))
    clear hr hb2
    go_wp2_with (go_at_call 16; refine (num_any _ _).mono ?_; rintro e w' ⟨rfl, rfl⟩)
    go_ret
    exact ⟨rfl, unhide HB2⟩
  · subst h0 hq0
    have HCN := hide hord.cn
    clear hord
    go_wp2_with fail
    refine (unhide HCK _ _ _).mono ?_
    rintro e w2 ⟨⟨a, p, n, hr, rfl⟩, hb2⟩
    have hnk : n = k := by
      rcases hr with ⟨h, h'⟩ | ⟨h, _⟩ | ⟨h, _⟩ | ⟨h, _⟩ <;> exact (ReadPost_uniq h (unhide HRD)).2.2
    subst hnk
    have HR := hide hr
    have HB2 := hide ((unhide HB1).trans (hb2.mono (unhide HB1).size))
    have HI2 := hide (fun n hn => (unhide HI1 n hn).below hb2)
    have HE2 := hide ((unhide HE1).below hb2)
    have HCN2 := hide (keepC hb2 (unhide HCN))
    clear hr hb2
    by_cases hok : a = 0 ∧ 0 ≤ fuel ∧ fuel ≤ 10000
    · obtain ⟨rfl, hf0, hf1⟩ := hok
      have hp : p = 0 := by
        rcases unhide HR with ⟨h, h'⟩ | ⟨h, h', e, _⟩ | ⟨_, _, _, e, _⟩ | ⟨_, _, _, _, h⟩
        · exact absurd rfl h'
        · exact absurd e.symm h'
        · omega
        · exact h
      subst hp
      obtain ⟨f, rfl⟩ : ∃ k : Nat, fuel = (k : Int) := ⟨fuel.toNat, by omega⟩
      have hff : f ≤ 10000 := by omega
      have HF1 := hide (show decide (0 ≤ (f : Int) ∧ (f : Int) ≤ 10000) = true by simp; omega)
      go_wp2_with fail
      refine ((unhide HC).ok (unhide HR) hff (unhide HI2)).mono ?_
      rintro e w3 ⟨xv, rfl, hxv, hb3⟩
      have HB3 := hide ((unhide HB2).trans (hb3.mono (unhide HB2).size))
      have HI3 := hide (fun n hn => (unhide HI2 n hn).below hb3)
      have HE3 := hide ((unhide HE2).below hb3)
      have HCN3 := hide (keepC hb3 (unhide HCN2))
      have HXV := hide hxv
      clear hb3 hxv
      go_wp2_with (first | (go_at_call 16; refine (num_any _ _).mono ?_; rintro e w' ⟨rfl, rfl⟩) | (go_at_call 28; refine (fuelled_any _ _).mono ?_; rintro e w' ⟨rfl, rfl⟩; rw [unhide HF1]))
      obtain ⟨i0, hi0, hz0, hz1, hz2⟩ := info_parts info_rowsI
      have HI0 := hide (And.intro hi0 (And.intro hz0 (And.intro hz1 hz2)))
      clear hi0 hz0 hz1 hz2
      obtain ⟨ia, il, ic, rfl, hd⟩ := unhide HIN n h8
      obtain ⟨ea, el, ec, EZ, rfl, _, _⟩ := id (unhide HE)
      have HD := hide hd
      clear hd
      go_loopg [19, 20] n (fun g ov d wr => ∃ (j : Nat) (Ls : List Value), j + g = n ∧ d = .int .i64 (j : Int) ∧ Below w'.heap.size w' wr ∧ wr.ownsRow w'.heap.size 46 1 ov j Ls ∧ Ls.length = j ∧ RowsTo w Ls j (fun d => (inp d).take f))
      case atStart => exact ⟨0, [], Nat.zero_add _, rfl, Below.refl _ _, World.ownsRow_nil _ _ _ _, rfl, fun d h => by omega⟩
      case round =>
        obtain ⟨j, Ls, hjg, rfl, hbr, hor, hll, hrw⟩ := hrel
        have HBR := hide hbr
        have HOR := hide hor
        have HLL := hide hll
        have HRW := hide hrw
        have hwl := hbr.size
        have cn := keepC hbr (unhide HCN3)
        have HOB := hide (show ∀ g, u19.ownBlock = some g → w'.heap.size ≤ g ∧ g < wr.heap.size from fun g hg => (unhide HOR).lt g hg)
        clear hbr hor hll hrw
        by_cases hlt : j < n
        · have hlt' : (j : Int) < (n : Int) := by omega
          have hw1 : Hid (Value.int .i64 ((j : Int) + 1) = Value.int .i64 ((j + 1 : Nat) : Int)) := hide (congrArg (Value.int .i64) (by omega))
          by_cases hl : j < il
          · have hl' : (j : Int) < (il : Int) := by omega
            obtain ⟨ad, ra, rl, rc, Z, rfl, c1, c2, e2⟩ := (unhide HD j hlt).1 hl
            have hrow : RowIs w (.slice ra rl rc) (inp j) := ⟨ra, rl, rc, Z, rfl, c2, e2⟩
            have hcap := unhide HRM ad il ic j ra rl rc rfl hl c1
            have hbw : Below w.heap.size w wr := (unhide HB3).trans ((unhide HBR).mono (unhide HB3).size)
            have c1' := keepC hbw c1
            clear c1 c2 e2 hbw
            by_cases hcut : f < rl
            · have hcut' : (f : Int) < (rl : Int) := by omega
              have HQ := hide (hrow.cut hcut)
              clear hrow
              go_wp2_with (at_builtin; refine wpList_append_lies _ rfl _ _ 63 rfl w'.heap.size 46 i0 (.slice none 0 0) 1 24 Try.underlying63 (unhide HI0).1 (unhide HI0).2.1 (unhide HI0).2.2.1 (unhide HI0).2.2.2 rfl (by decide) _ j Ls rfl ((unhide HOR).alloc _) ⟨wr.heap.size, 0, none⟩ 1 1 [(.slice ra f rc)] rfl rfl (World.news_of_block (cs := #[(.slice ra f rc)]) (t := 46) (fr := (0, 0)) (heap_alloc_new wr _)) (by simp [Value.oneCell']) (by omega) (by unfold maxLen; omega) (by omega) (by simp; omega) (wr.heap.size + 1) (by simp) ?_)
              intro gg cap2 w5 hown1 hgrow hat hlt9
              have HO2 := hide hown1
              have HB5 := hide (show Below w'.heap.size w' w5 from (unhide HBR).trans ⟨hgrow.os, hgrow.tape, hgrow.output, by have := hgrow.size; simp at this; omega, fun i hi => by
                have h1 := hgrow.block i (by simp; omega) (fun e => by have := (unhide HOB i e.symm).1; omega)
                exact h1.trans (Below.heap_alloc wr _ i (by omega))⟩)
              clear hown1 hgrow hat hlt9
              go_wp2_with fail
              go_roundg (gk - 1)
              case measure => omega
              case rel => exact ⟨j + 1, Ls ++ [(.slice ra f rc)], by omega, unhide hw1, unhide HB5, unhide HO2, by simp [unhide HLL], rows_app (unhide HLL) (unhide HRW) (unhide HQ)⟩
            · have hcut' : decide ((f : Int) < (rl : Int)) = false := by simp; omega
              have HQ := hide (show RowIs w (.slice ra rl rc) ((inp j).take f) from (hrow.whole (f := f) (by omega)).symm ▸ hrow)
              clear hrow
              go_wp2_with (at_builtin; refine wpList_append_lies _ rfl _ _ 63 rfl w'.heap.size 46 i0 (.slice none 0 0) 1 24 Try.underlying63 (unhide HI0).1 (unhide HI0).2.1 (unhide HI0).2.2.1 (unhide HI0).2.2.2 rfl (by decide) _ j Ls rfl ((unhide HOR).alloc _) ⟨wr.heap.size, 0, none⟩ 1 1 [(.slice ra rl rc)] rfl rfl (World.news_of_block (cs := #[(.slice ra rl rc)]) (t := 46) (fr := (0, 0)) (heap_alloc_new wr _)) (by simp [Value.oneCell']) (by omega) (by unfold maxLen; omega) (by omega) (by simp; omega) (wr.heap.size + 1) (by simp) ?_)
              intro gg cap2 w5 hown1 hgrow hat hlt9
              have HO2 := hide hown1
              have HB5 := hide (show Below w'.heap.size w' w5 from (unhide HBR).trans ⟨hgrow.os, hgrow.tape, hgrow.output, by have := hgrow.size; simp at this; omega, fun i hi => by
                have h1 := hgrow.block i (by simp; omega) (fun e => by have := (unhide HOB i e.symm).1; omega)
                exact h1.trans (Below.heap_alloc wr _ i (by omega))⟩)
              clear hown1 hgrow hat hlt9
              go_wp2_with fail
              go_roundg (gk - 1)
              case measure => omega
              case rel => exact ⟨j + 1, Ls ++ [(.slice ra rl rc)], by omega, unhide hw1, unhide HB5, unhide HO2, by simp [unhide HLL], rows_app (unhide HLL) (unhide HRW) (unhide HQ)⟩
          · have hl' : decide ((j : Int) < (il : Int)) = false := by simp; omega
            have hcut' : decide ((f : Int) < 0) = false := by simp
            have HQ := hide (show RowIs w (.slice none 0 0) ((inp j).take f) by rw [(unhide HD j hlt).2 (by omega)]; simpa using RowIs.nil)
            go_wp2_with (at_builtin; refine wpList_append_lies _ rfl _ _ 63 rfl w'.heap.size 46 i0 (.slice none 0 0) 1 24 Try.underlying63 (unhide HI0).1 (unhide HI0).2.1 (unhide HI0).2.2.1 (unhide HI0).2.2.2 rfl (by decide) _ j Ls rfl ((unhide HOR).alloc _) ⟨wr.heap.size, 0, none⟩ 1 1 [(.slice none 0 0)] rfl rfl (World.news_of_block (cs := #[(.slice none 0 0)]) (t := 46) (fr := (0, 0)) (heap_alloc_new wr _)) (by simp [Value.oneCell']) (by omega) (by unfold maxLen; omega) (by omega) (by simp; omega) (wr.heap.size + 1) (by simp) ?_)
            intro gg cap2 w5 hown1 hgrow hat hlt9
            have HO2 := hide hown1
            have HB5 := hide (show Below w'.heap.size w' w5 from (unhide HBR).trans ⟨hgrow.os, hgrow.tape, hgrow.output, by have := hgrow.size; simp at this; omega, fun i hi => by
              have h1 := hgrow.block i (by simp; omega) (fun e => by have := (unhide HOB i e.symm).1; omega)
              exact h1.trans (Below.heap_alloc wr _ i (by omega))⟩)
            clear hown1 hgrow hat hlt9
            go_wp2_with fail
            go_roundg (gk - 1)
            case measure => omega
            case rel => exact ⟨j + 1, Ls ++ [(.slice none 0 0)], by omega, unhide hw1, unhide HB5, unhide HO2, by simp [unhide HLL], rows_app (unhide HLL) (unhide HRW) (unhide HQ)⟩
        · have hje : j = n := by omega
          subst hje
          have hlt' : decide ((j : Int) < (j : Int)) = false := by simp
          go_wp2_with (at_builtin; refine wpList_append_lies _ rfl _ _ 63 rfl w'.heap.size 46 i0 (.slice none 0 0) 1 24 Try.underlying63 (unhide HI0).1 (unhide HI0).2.1 (unhide HI0).2.2.1 (unhide HI0).2.2.2 rfl (by decide) _ j Ls rfl ((unhide HOR).alloc _) ⟨wr.heap.size, 0, none⟩ 1 1 [(.slice ea el ec)] rfl rfl (World.news_of_block (cs := #[(.slice ea el ec)]) (t := 46) (fr := (0, 0)) (heap_alloc_new wr _)) (by simp [Value.oneCell']) (by omega) (by unfold maxLen; omega) (by omega) (by simp; omega) (wr.heap.size + 1) (by simp) ?_)
          intro gg cap2 w5 hown1 hgrow hat hlt9
          have HB5 := hide (show Below w'.heap.size w' w5 from (unhide HBR).trans ⟨hgrow.os, hgrow.tape, hgrow.output, by have := hgrow.size; simp at this; omega, fun i hi => by
            have h1 := hgrow.block i (by simp; omega) (fun e => by have := (unhide HOB i e.symm).1; omega)
            exact h1.trans (Below.heap_alloc wr _ i (by omega))⟩)
          have HBW := hide ((unhide HB3).trans ((unhide HB5).mono (unhide HB3).size))
          have hrt : RowsTo w (Ls ++ [(.slice ea el ec)]) (j + 1) (cutI j f inp E) := rows_app (unhide HLL) (fun d hd => by rw [cutI_in hd]; exact unhide HRW d hd) (by rw [cutI_at]; exact unhide HE)
          have HIM := hide (show ∀ n, n ≤ 8 → InpR w5 (.slice (some ⟨gg, 0, none⟩) (j + 1) cap2) n (cutI j f inp E) from fun n _ => InpR.own hown1 (fun d hd => by obtain ⟨u, h1, h2⟩ := hrt d hd; exact ⟨u, h1, h2.below (unhide HBW)⟩) (fun d hd => cutI_out hd))
          have HXV5 := hide ((unhide HXV).below (unhide HB5))
          clear hown1 hgrow hat hlt9 hrt
          go_wp2_with fail
          refine ((unhide HC).ok (unhide HR) hff (unhide HIM)).mono ?_
          rintro e w6 ⟨yv, rfl, hyv, hb6⟩
          rw [rnR_cut] at hyv
          rw [rnR_cut]
          have HB6 := hide ((unhide HBW).trans (hb6.mono (unhide HBW).size))
          have HXV6 := hide ((unhide HXV5).below hb6)
          have HYV := hide hyv
          clear hb6 hyv
          have hl1 : (rnR o s j inp f).1.out.length ≤ 1000000 := by have := rnR_len o s j inp f; omega
          go_wp2_with fail
          refine (sameEvents_any hl1 (unhide HXV6) (unhide HYV)).mono ?_
          rintro e w7 ⟨x, rfl, hx, hb7⟩
          have hxt : x = true := hx.2 ⟨rfl, fun _ _ => rfl⟩
          subst hxt
          have HB7 := hide ((unhide HB6).trans (hb7.mono (unhide HB6).size))
          clear hx hb7 hl1
          go_wp2_with (go_at_call 16; refine (num_any _ _).mono ?_; rintro e w' ⟨rfl, rfl⟩)
          go_ret
          exact ⟨rfl, unhide HB7⟩
    · have HF1 : Hid (decide (0 ≤ fuel ∧ fuel ≤ 10000) = true → decide (a = 0) = false) := hide (by
        intro h
        have h' := of_decide_eq_true h
        simp only [decide_eq_false_iff_not]
        exact fun e => hok ⟨e, h'⟩)
      go_wp2_with fail
      refine ((unhide HC).bad (unhide HR) (by by_cases e : a = 0; exact Or.inr (fun h => hok ⟨e, h⟩); exact Or.inl e) (unhide HI2)).mono ?_
      rintro e w3 ⟨x, hx, rfl, hb3⟩
      have HB3 := hide ((unhide HB2).trans (hb3.mono (unhide HB2).size))
      have hx' : decide (x = 0) = false := by simpa using hx
      clear hb3
      have hx2 : (x != 0) = true := by simpa using hx
      have hnil : ∀ w, (binOp .eql 60 (.slice none 0 0) (.slice none 0 0)).run Try.prog w = .ok (.bool true) w := fun w => Lib.run_eql_slice_nil w _ _ none 0 0 0 0 Try.underlying60
      obtain ⟨ff, HFF⟩ : ∃ b : Bool, Hid (decide (0 ≤ fuel ∧ fuel ≤ 10000) = b) := ⟨_, rfl⟩
      rw [unhide HFF] at HF1
      rcases Bool.eq_false_or_eq_true ff with e | e
      · subst e
        have ha' := unhide HF1 rfl
        have ha2 : (a != 0) = true := by simpa using ha'
        go_wp2_with (first | (go_at_call 16; refine (num_any _ _).mono ?_; rintro e w' ⟨rfl, rfl⟩) | (go_at_call 28; refine (fuelled_any _ _).mono ?_; rintro e w' ⟨rfl, rfl⟩; rw [unhide HFF]))
        go_ret
        exact ⟨rfl, unhide HB3⟩
      · subst e
        go_wp2_with (first | (go_at_call 16; refine (num_any _ _).mono ?_; rintro e w' ⟨rfl, rfl⟩) | (go_at_call 28; refine (fuelled_any _ _).mono ?_; rintro e w' ⟨rfl, rfl⟩; rw [unhide HFF]))
        go_ret
        exact ⟨rfl, unhide HB3⟩

end Go.Proofs.Ytfcflnnleadpkaa
