import Derived.Test.YtfcflnnleadpkaaGreatXhJ
import Derived.Deep.RegionHeld3
namespace Go.Proofs.YtfcflnnleadpkaaGreat
open Go.RowKit

variable {G : REnv} {F : Nat} {w : World} {ov : Value} {st : RS} {k : Nat}

def SOk (G : REnv) : Prop := ∀ (w : World) (ov : Value) (st : RS) (k i j f : Nat), RAt G w ov st k → RunI G.E.n st → bt G.E.s i = 111 → isDB (bt G.E.s (i + 1)) G.E.n = true → scE (bt G.E.s) G.E.nv f (i + 2) = (j, false) →
    Calls Tryz.prog 34 #[.pointer (some ⟨G.rb, 0, none⟩), .int .i64 (i : Int)] w fun e w' => e = .returned (.int .i64 ((outW st (bt G.E.s (i + 1) - 48).toNat (evE (bt G.E.s) st.V f (i + 2))).2 : Int)) ∧ ∃ ov', RAt G w' ov' (outW st (bt G.E.s (i + 1) - 48).toNat (evE (bt G.E.s) st.V f (i + 2))).1 k

set_option maxHeartbeats 3200000 in
set_option maxRecDepth 10000 in
theorem rstmt_step (K : RK G F) (SO : Hid (SOk G)) {g : Nat} (IH : Hid (ROk G F g)) : ROk G F (g + 1) := by
  intro w ov st k i j f h hin hw hF hg hk
  have HH := hide h
  have k5 := h.c5
  have z5 := h.fz 5
  by_cases hf0 : st.fuel = 0
  · have hf' : decide ((st.fuel : Int) ≤ 0) = true := by simp; omega
    have HX := hide (show exR G F (g + 1) i k st = (st, 0) from exS_spent hf0)
    rw [hf0] at k5
    rw [unhide HX]
    clear h hin hw
    go_enter Tryz.func18, Tryz.ntmps18
    go_wp2_with fail
    go_ret
    exact ⟨rfl, ov, unhide HH⟩
  · have hf' : decide ((st.fuel : Int) ≤ 0) = false := by simp; omega
    have hfb : st.fuel ≤ 10000 := by have := hin.out; omega
    have HD : Hid (RAt G (w.setCell ⟨G.rb, 5, none⟩ (.int .i64 ((st.fuel : Int) - 1))) ov (dec st) k) := hide (h.setR K.S K.n1 (f := st.fuel - 1) (k' := k) (by rw [show ((st.fuel : Int) - 1) = ((st.fuel - 1 : Nat) : Int) by omega]; rfl))
    obtain ⟨W, HW⟩ : ∃ W, Hid (w.setCell ⟨G.rb, 5, none⟩ (.int .i64 ((st.fuel : Int) - 1)) = W) := ⟨_, rfl⟩
    rw [unhide HW] at HD
    have HI := hide hin.dec
    have hgd : (dec st).fuel ≤ g := by show st.fuel - 1 ≤ g; omega
    have PW := K.P.below K.n1 (unhide HD).bel
    have p0 := (unhide HD).c0
    have pS := PW.cS
    have pO := PW.cO
    have pN := PW.ord.cn
    have hi0 : i < G.E.s.size := (wfS_lt _ _ _ hw).1
    have hb0 := bt_eq G.E.s i hi0
    have hi' : (i : Int) < (G.E.s.size : Int) := by omega
    have hsz := K.sz
    have hw' : wfS (bt G.E.s) G.E.nv G.E.n G.E.np f i = (j, false) := hw
    clear h hin PW
    cases f with
    | zero => simp [wfS] at hw'
    | succ f =>
      rcases wfS_letter hw' with hc | hc | hc | hc | hc | hc | hc | hc
      · rcases hc with hc | hc
        · have HX := hide (show exR G F (g + 1) i k st = (dec st, 1) from exS_no hf0 (by omega) (by omega) (by omega) (by omega) (by omega) (by omega) (by omega) (by omega) (by omega))
          rw [unhide HX]
          rw [hc] at hb0
          clear hw hw' hc
          go_enter Tryz.func18, Tryz.ntmps18
          go_wp2_with (rw [unhide HW])
          go_ret
          exact ⟨rfl, ov, unhide HD⟩
        · have HX := hide (show exR G F (g + 1) i k st = (dec st, 2) from exS_x hf0 hc)
          rw [unhide HX]
          rw [hc] at hb0
          clear hw hw' hc
          go_enter Tryz.func18, Tryz.ntmps18
          go_wp2_with (rw [unhide HW])
          go_ret
          exact ⟨rfl, ov, unhide HD⟩
      · obtain ⟨m, e1, e2⟩ := wfS_inv_seq hw' hc
        have E1 := hide (show wf0 G.E f (i + 1) = (m, false) from e1)
        have E2 := hide (show wf0 G.E f m = (j, false) from e2)
        have HSK := hide (skS_of f (i + 1) m F e1 (by omega))
        obtain ⟨r, HR⟩ : ∃ r, Hid (exR G F g (i + 1) k (dec st) = r) := ⟨_, rfl⟩
        have HIR : Hid (RunI G.E.n r.1) := by rw [← unhide HR]; exact (unhide HI).ex K (unhide E1) (by omega)
        have HGR : Hid (r.1.fuel ≤ (dec st).fuel) := by
          rw [← unhide HR]
          exact (exS_grow (c := bt G.E.s) (inp := G.inp) (P := fun k => (G.E.P k).toNat) (F := F) g (i + 1) k (dec st)).fuel
        rcases hc with hc | hc
        · have HX := hide (show exR G F (g + 1) i k st = if r.2 = 1 then exR G F g m k r.1 else r by
            rw [← unhide HR]
            show exS _ _ _ _ _ _ _ _ = _
            rw [exS_seq hf0 hc, unhide HSK]; rfl)
          rw [hc] at hb0
          clear hw hw' hc e1 e2
          go_enter Tryz.func18, Tryz.ntmps18
          go_wp2_with (rw [unhide HW])
          rw [show (i : Int) + 1 = ((i + 1 : Nat) : Int) by omega]
          refine (unhide IH W ov (dec st) k (i + 1) m f (unhide HD) (unhide HI) (unhide E1) (by omega) hgd hk).mono ?_
          rintro e w2 ⟨rfl, ov2, hr2⟩
          rw [unhide HR] at hr2
          rw [unhide HR]
          obtain ⟨rs, re⟩ := r
          simp only at HIR HGR hr2 HX
          have HR2 := hide hr2
          have P2 := K.P.below K.n1 hr2.bel
          have q0 := hr2.c0
          have qS := P2.cS
          clear hr2 P2 p0 pS pO pN
          by_cases hr1 : re = 1
          · subst hr1
            have HX2 := hide (show exR G F (g + 1) i k st = exR G F g m k rs from (unhide HX).trans (if_pos rfl))
            clear HX
            go_wp2_with fail
            rw [show (i : Int) + 1 = ((i + 1 : Nat) : Int) by omega]
            refine (skip_any G.E.s G.E.nv G.E.n G.E.np K.sz f _ _ _ (unhide E1)).mono ?_
            rintro e w' ⟨rfl, rfl⟩
            go_wp2_with fail
            refine (unhide IH _ ov2 rs k m j f (unhide HR2) (unhide HIR) (unhide E2) (by omega) (by have := unhide HGR; omega) hk).mono ?_
            rintro e w3 ⟨rfl, ov3, hr3⟩
            have HR3 := hide hr3
            clear hr3
            go_wp2_with fail
            go_ret
            exact ⟨by rw [unhide HX2]; rfl, ov3, by rw [unhide HX2]; exact unhide HR3⟩
          · have hr1' : decide ((re : Int) = 1) = false := by simp; omega
            have HX2 := hide (show exR G F (g + 1) i k st = (rs, re) from (unhide HX).trans (if_neg hr1))
            clear HX
            go_wp2_with fail
            go_ret
            exact ⟨by rw [unhide HX2]; rfl, ov2, by rw [unhide HX2]; exact unhide HR2⟩
        · have HX := hide (show exR G F (g + 1) i k st = if r.2 = 2 then exR G F g m k r.1 else r by
            rw [← unhide HR]
            show exS _ _ _ _ _ _ _ _ = _
            rw [exS_t hf0 hc, unhide HSK]; rfl)
          rw [hc] at hb0
          clear hw hw' hc e1 e2
          go_enter Tryz.func18, Tryz.ntmps18
          go_wp2_with (rw [unhide HW])
          rw [show (i : Int) + 1 = ((i + 1 : Nat) : Int) by omega]
          refine (unhide IH W ov (dec st) k (i + 1) m f (unhide HD) (unhide HI) (unhide E1) (by omega) hgd hk).mono ?_
          rintro e w2 ⟨rfl, ov2, hr2⟩
          rw [unhide HR] at hr2
          rw [unhide HR]
          obtain ⟨rs, re⟩ := r
          simp only at HIR HGR hr2 HX
          have HR2 := hide hr2
          have P2 := K.P.below K.n1 hr2.bel
          have q0 := hr2.c0
          have qS := P2.cS
          clear hr2 P2 p0 pS pO pN
          by_cases hr1 : re = 2
          · subst hr1
            have HX2 := hide (show exR G F (g + 1) i k st = exR G F g m k rs from (unhide HX).trans (if_pos rfl))
            clear HX
            go_wp2_with fail
            rw [show (i : Int) + 1 = ((i + 1 : Nat) : Int) by omega]
            refine (skip_any G.E.s G.E.nv G.E.n G.E.np K.sz f _ _ _ (unhide E1)).mono ?_
            rintro e w' ⟨rfl, rfl⟩
            go_wp2_with fail
            refine (unhide IH _ ov2 rs k m j f (unhide HR2) (unhide HIR) (unhide E2) (by omega) (by have := unhide HGR; omega) hk).mono ?_
            rintro e w3 ⟨rfl, ov3, hr3⟩
            have HR3 := hide hr3
            clear hr3
            go_wp2_with fail
            go_ret
            exact ⟨by rw [unhide HX2]; rfl, ov3, by rw [unhide HX2]; exact unhide HR3⟩
          · have hr1' : decide ((re : Int) = 2) = false := by simp; omega
            have HX2 := hide (show exR G F (g + 1) i k st = (rs, re) from (unhide HX).trans (if_neg hr1))
            clear HX
            go_wp2_with fail
            go_ret
            exact ⟨by rw [unhide HX2]; rfl, ov2, by rw [unhide HX2]; exact unhide HR2⟩
      · obtain ⟨e1, e2⟩ := wfS_inv_eq hw' hc
        have E1 := hide e1
        have E2 := hide e2
        have HX := hide (show exR G F (g + 1) i k st = setW (dec st) (bt G.E.s (i + 1) - 97).toNat (evE (bt G.E.s) (dec st).V f (i + 2)) from (exS_eq hf0 hc).trans (by rw [evE_fuel f _ _ F e2 (by omega)]; rfl))
        have HC := hide hc
        rw [hc] at hb0
        clear hw hw' hc e1 e2
        go_enter Tryz.func18, Tryz.ntmps18
        go_wp2_with (rw [unhide HW])
        refine (simpleEq_any K (unhide HD) (unhide HI) (unhide HC) (unhide E1) (unhide E2)).mono ?_
        rintro e w2 ⟨rfl, ov2, hr2⟩
        have HR2 := hide hr2
        clear hr2
        go_wp2_with fail
        go_ret
        exact ⟨by rw [unhide HX]; rfl, ov2, by rw [unhide HX]; exact unhide HR2⟩
      · obtain ⟨m, q, e1, e2, e3⟩ := wfS_inv_i hw' hc
        have E1 := hide e1
        have E2 := hide (show wf0 G.E f m = (q, false) from e2)
        have E3 := hide (show wf0 G.E f q = (j, false) from e3)
        have HX := hide (show exR G F (g + 1) i k st = ifW (dec st) (evE (bt G.E.s) (dec st).V f (i + 1)) (exR G F g m k) (exR G F g q k) from (exS_i hf0 hc).trans (by rw [evE_fuel f _ _ F e1 (by omega), skE_of f _ _ F e1 (by omega), skS_of f _ _ F e2 (by omega)]; rfl))
        rw [hc] at hb0
        clear hw hw' hc e1 e2 e3
        go_enter Tryz.func18, Tryz.ntmps18
        go_wp2_with (rw [unhide HW])
        refine (branch_any K IH (unhide HD) (unhide HI) hgd hk (by omega : f ≤ F) (unhide E1) (unhide E2) (unhide E3)).mono ?_
        rintro e w2 ⟨rfl, ov2, hr2⟩
        have HR2 := hide hr2
        clear hr2
        go_wp2_with fail
        go_ret
        exact ⟨by rw [unhide HX]; rfl, ov2, by rw [unhide HX]; exact unhide HR2⟩
      · obtain ⟨m, e1, e2⟩ := wfS_inv_w hw' hc
        have E1 := hide e1
        have E2 := hide (show wf0 G.E f m = (j, false) from e2)
        have HX := hide (show exR G F (g + 1) i k st = lpW (exR G F g m k) (fun V => evE (bt G.E.s) V f (i + 1)) g (dec st) from (exS_w hf0 hc).trans (by
          have e5 : (fun V => evE (bt G.E.s) V F (i + 1)) = (fun V => evE (bt G.E.s) V f (i + 1)) := by funext V; exact evE_fuel f _ _ F e1 (by omega)
          rw [e5, skE_of f _ _ F e1 (by omega)]; rfl))
        rw [hc] at hb0
        clear hw hw' hc e1 e2
        go_enter Tryz.func18, Tryz.ntmps18
        go_wp2_with (rw [unhide HW])
        refine (rloop_any K IH (unhide HD) (unhide HI) hgd hk (by omega : f ≤ F) (unhide E1) (unhide E2) (by omega)).mono ?_
        rintro e w2 ⟨rfl, ov2, hr2⟩
        have HR2 := hide hr2
        clear hr2
        go_wp2_with fail
        go_ret
        exact ⟨by rw [unhide HX]; rfl, ov2, by rw [unhide HX]; exact unhide HR2⟩
      · obtain ⟨e1, e2, e3⟩ := wfS_inv_r hw' hc
        obtain ⟨d, ed, hd⟩ := isDB_nat e1
        obtain ⟨v, ev, hv⟩ := isVar_nat e2
        have hi1 := isDB_lt e1
        have hi2 := isVar_lt e2
        have hb1 := bt_eq G.E.s (i + 1) hi1
        have hb2 := bt_eq G.E.s (i + 2) hi2
        have ⟨hbb0, hbb1⟩ := bt_bd G.E.s (i + 1)
        have HDG := hide (show dgt (bt G.E.s (i + 1)) G.E.n = (d : Int) by unfold dgt; rw [e1]; exact ed)
        have HX := hide (show exR G F (g + 1) i k st = rdW (dec st) d v ((G.inp d)[(dec st).tk d]?) from (exS_r hf0 hc).trans (by rw [ed, ev]; rfl))
        have hv97 : bt G.E.s (i + 2) = (v : Int) + 97 := by omega
        rw [hv97] at hb2
        rw [hc] at hb0
        obtain ⟨c1, hc1⟩ : ∃ c1, bt G.E.s (i + 1) = c1 := ⟨_, rfl⟩
        rw [hc1] at hb1 hbb0 hbb1 HDG
        have hi1' : (i : Int) + 1 < (G.E.s.size : Int) := by omega
        have hi2' : (i : Int) + 2 < (G.E.s.size : Int) := by omega
        have hwr : IntKind.i64.wrap ((i : Int) + 1) = (i : Int) + 1 := wrap_i64_id _ (by omega) (by omega)
        have htn : ((i : Int) + 1).toNat = i + 1 := by omega
        have h0i : (0 : Int) ≤ (i : Int) + 1 := by omega
        have hwr2 : IntKind.i64.wrap ((i : Int) + 2) = (i : Int) + 2 := wrap_i64_id _ (by omega) (by omega)
        have htn2 : ((i : Int) + 2).toNat = i + 2 := by omega
        have h0i2 : (0 : Int) ≤ (i : Int) + 2 := by omega
        have hnv8 := K.nv
        have HWK := hide (show IntKind.i64.wrap (IntKind.i64.wrap ((v : Int) + 97) - 97) = (v : Int) by
          rw [wrap_i64_id ((v : Int) + 97) (by omega) (by omega), show (v : Int) + 97 - 97 = (v : Int) by omega]
          exact wrap_i64_id _ (by omega) (by omega))
        clear hw hw' hc e1 e2 e3 ed ev hv97 hc1
        go_enter Tryz.func18, Tryz.ntmps18
        go_wp2_with (rw [unhide HW])
        go_region_held3 (fun w' => w'.cell? ⟨G.rb, 0, none⟩ = some (.pointer (some ⟨G.E.pb, 0, none⟩)) ∧ w'.cell? ⟨G.E.pb, 1, none⟩ = some (.string G.E.s) ∧ w'.cell? ⟨G.E.pb, 0, none⟩ = some (.pointer (some ⟨G.E.ob, 0, none⟩)) ∧ w'.cell? ⟨G.E.ob, 0, none⟩ = some (.int .i64 (G.E.n : Int)))
          (first
            | exact ⟨hr2.c0, (K.P.below K.n1 hr2.bel).cS, (K.P.below K.n1 hr2.bel).cO, (K.P.below K.n1 hr2.bel).ord.cn⟩
            | go_keep)
          (first
            | (go_at_call 29; refine (digit_any _ _ _ hbb0 hbb1).mono ?_; rintro e w' ⟨rfl, rfl⟩; rw [unhide HDG])
            | (go_at_call 37; rw [unhide HWK]; refine (take_any K ((unhide HD).drewN 1) (unhide HI) hd hv).mono ?_; rintro e w2 ⟨rfl, ov2, hr2⟩))
        all_goals
          have HR2 := hide hr2
          clear hr2
          go_wp2_with fail
          go_ret
          exact ⟨by rw [unhide HX]; rfl, ov2, by rw [unhide HX]; exact unhide HR2⟩
      · obtain ⟨e1, e2⟩ := wfS_inv_o hw' hc
        have E1 := hide e1
        have E2 := hide e2
        have HX := hide (show exR G F (g + 1) i k st = outW (dec st) (bt G.E.s (i + 1) - 48).toNat (evE (bt G.E.s) (dec st).V f (i + 2)) from (exS_o hf0 hc).trans (by rw [evE_fuel f _ _ F e2 (by omega)]; rfl))
        have HC := hide hc
        rw [hc] at hb0
        clear hw hw' hc e1 e2
        go_enter Tryz.func18, Tryz.ntmps18
        go_wp2_with (rw [unhide HW])
        refine (unhide SO W ov (dec st) k i j f (unhide HD) (unhide HI) (unhide HC) (unhide E1) (unhide E2)).mono ?_
        rintro e w2 ⟨rfl, ov2, hr2⟩
        have HR2 := hide hr2
        clear hr2
        go_wp2_with fail
        go_ret
        exact ⟨by rw [unhide HX]; rfl, ov2, by rw [unhide HX]; exact unhide HR2⟩
      · obtain ⟨e1, e2⟩ := wfS_inv_c hw' hc
        obtain ⟨d, ed, hd⟩ := isDB_nat e1
        have hi1 := isDB_lt e1
        have hb1 := bt_eq G.E.s (i + 1) hi1
        have ⟨hbb0, hbb1⟩ := bt_bd G.E.s (i + 1)
        have hnp4 := K.np
        have HDG := hide (show dgt (bt G.E.s (i + 1)) 4 = (d : Int) by
          have h4 : isDB (bt G.E.s (i + 1)) 4 = true := by
            have := (isDB_iff _ _).1 e1
            exact (isDB_iff _ _).2 ⟨this.1, this.2.1, by omega⟩
          unfold dgt; rw [h4]; exact ed)
        have HX := hide (show exR G F (g + 1) i k st = if 8 ≤ k then (dec st, 2) else exR G F g (G.E.P d).toNat (k + 1) (dec st) from (exS_c hf0 hc).trans (by rw [ed]; rfl))
        rw [hc] at hb0
        obtain ⟨c1, hc1⟩ : ∃ c1, bt G.E.s (i + 1) = c1 := ⟨_, rfl⟩
        rw [hc1] at hb1 hbb0 hbb1 HDG
        have hi1' : (i : Int) + 1 < (G.E.s.size : Int) := by omega
        have hwr : IntKind.i64.wrap ((i : Int) + 1) = (i : Int) + 1 := wrap_i64_id _ (by omega) (by omega)
        have htn : ((i : Int) + 1).toNat = i + 1 := by omega
        have h0i : (0 : Int) ≤ (i : Int) + 1 := by omega
        clear hw hw' hc e1 e2 ed hc1
        go_enter Tryz.func18, Tryz.ntmps18
        go_wp2_with (rw [unhide HW])
        refine (digit_any _ _ _ hbb0 hbb1).mono ?_
        rintro e w' ⟨rfl, rfl⟩
        rw [unhide HDG]
        go_wp2_with fail
        refine (rcall_any K IH (unhide HD) (unhide HI) hgd hk hd).mono ?_
        rintro e w2 ⟨rfl, ov2, hr2⟩
        obtain ⟨r, HR⟩ : ∃ r, Hid ((if 8 ≤ k then (dec st, 2) else exR G F g (G.E.P d).toNat (k + 1) (dec st)) = r) := ⟨_, rfl⟩
        rw [unhide HR] at hr2 HX
        rw [unhide HR]
        have HR2 := hide hr2
        clear hr2
        go_wp2_with fail
        go_ret
        exact ⟨by rw [unhide HX]; rfl, ov2, by rw [unhide HX]; exact unhide HR2⟩

theorem rstmt_ok (K : RK G F) (SO : Hid (SOk G)) : ∀ g, ROk G F g := by
  intro g
  induction g with
  | zero =>
    intro w ov st k i j f h hin hw hF hg hk
    have h1 := rstmt_step K SO (g := 0) (hide (fun w ov st k i j f h hin hw hF hg hk => by
      have hf0 : st.fuel = 0 := by omega
      have HH := hide h
      have k5 := h.c5
      have hf' : decide ((st.fuel : Int) ≤ 0) = true := by simp; omega
      have HX := hide (show exR G F 0 i k st = (st, 0) from exS_spent hf0)
      rw [hf0] at k5
      rw [unhide HX]
      clear h hin hw
      go_enter Tryz.func18, Tryz.ntmps18
      go_wp2_with fail
      go_ret
      exact ⟨rfl, ov, unhide HH⟩)) w ov st k i j f h hin hw hF (by omega) hk
    have hf0 : st.fuel = 0 := by omega
    have e1 : exR G F 1 i k st = (st, 0) := exS_spent hf0
    have e2 : exR G F 0 i k st = (st, 0) := exS_spent hf0
    rw [e1] at h1
    rw [e2]
    exact h1
  | succ g ih => exact rstmt_step K SO (hide ih)

end Go.Proofs.YtfcflnnleadpkaaGreat
