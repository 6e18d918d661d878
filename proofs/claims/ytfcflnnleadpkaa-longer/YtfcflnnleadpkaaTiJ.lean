import Derived.Test.YtfcflnnleadpkaaTbJ
import Derived.BigQuiet
import Derived.Deep.QuietTactic
import Derived.Test.YtfcflnnleadpkaaTaJ
namespace Go.Proofs.Ytfcflnnleadpkaa
open Go.RowKit
variable {E : Env} {w : World} {mute : Bool} {st : WS} {f i j p : Nat}

set_option maxHeartbeats 2000000 in
set_option maxRecDepth 100000 in
theorem wstmt_seq (K : EnvOk E) (IH : Hid (WOk E f)) (h : At E w mute st) (hr : InR E.n E.nv E.np st) (hf : wf0 E (f + 1) i = (j, false)) (hp : p < E.n) (hc : bt E.s i = 44 ∨ bt E.s i = 116) : Looks E (f + 1) w mute st i p := by
  unfold Looks
  obtain ⟨k, e1, e2⟩ := wfS_inv_seq hf hc
  have hi : i < E.s.size := bt_lt (by omega)
  have hs := K.sz
  have hbq := bt_eq E.s i hi
  have hi' : (i : Int) < (E.s.size : Int) := by omega
  have hi1 := (wfS_lt _ _ _ e1).1
  have hk1 := (wfS_lt _ _ _ e2).1
  have E1 := hide (show wf0 E f (i + 1) = (k, false) from e1)
  have E2 := hide (show wf0 E f k = (j, false) from e2)
  have HO1 := hide (wk_ok (mute := mute) (p := p) K (unhide E1) hp hr)
  have HE := hide (show wk E (f + 1) mute i p st = _ from wkS_seq hc)
  have k0 := h.cP
  have kS := h.cS
  have kO := h.cO
  have HH := hide h
  have HO := hide h.ord
  have HR := hide hr
  clear h hr hf e1 e2
  obtain ⟨x, HX⟩ : ∃ x, Hid (wk E f mute (i + 1) p st = x) := ⟨_, rfl⟩
  have HX' := hide (show wkS (bt E.s) E.R E.n (fixV (bt E.s) E.n) E.low f mute (i + 1) p st = x from unhide HX)
  simp only [unhide HX, unhide HX'] at HO1 HE
  obtain ⟨x1, x2, x3⟩ := x
  have hx1 : x1 = k := (unhide HO1).1
  subst hx1
  have HJ := hide (K.L.jn_lt hp (unhide HO1).2.1)
  have HO2 := hide (wk_ok (mute := mute) K (unhide E2) (unhide HJ).1 (unhide HO1).2.2)
  obtain ⟨y, HY⟩ : ∃ y, Hid (wk E f mute x1 (jn E.R E.n p x2) x3 = y) := ⟨_, rfl⟩
  have HY' := hide (show wkS (bt E.s) E.R E.n (fixV (bt E.s) E.n) E.low f mute x1 (jn E.R E.n p x2) x3 = y from unhide HY)
  simp only [unhide HY, unhide HY'] at HO2 HE
  obtain ⟨y1, y2, y3⟩ := y
  rcases hc with hc | hc
  · have HE2 := hide (show wk E (f + 1) mute i p st = (y1, jn E.R E.n x2 y2, y3) by rw [unhide HE, if_pos hc])
    rw [hc] at hbq
    clear hc
    go_enter Try.func59, Try.ntmps59
    go_wp2_with fail
    refine (Bottom_any _ _ _ _ _ _ _ K.n8 (unhide HO)).mono ?_
    rintro e w' ⟨rfl, rfl⟩
    go_wp2_with fail
    rw [show (i : Int) + 1 = ((i + 1 : Nat) : Int) by omega]
    refine (unhide IH _ mute st (i + 1) p x1 (unhide HH) (unhide HR) (unhide E1) hp hi1).mono ?_
    rintro e w1 ⟨rfl, ha, hfr⟩
    rw [unhide HX] at ha
    rw [unhide HX]
    simp only [tup2]
    have HA := hide ha
    have HFR := hide hfr
    have q0 := ha.cP
    have qS := ha.cS
    clear ha hfr
    go_wp2_with fail
    refine (wjoin_any K.L K.n8 (unhide HA) hp (unhide HO1).2.1).mono ?_
    rintro e w3 ⟨rfl, rfl⟩
    go_wp2_with fail
    refine (unhide IH _ mute x3 x1 _ j (unhide HA) (unhide HO1).2.2 (unhide E2) (unhide HJ).1 hk1).mono ?_
    rintro e w4 ⟨rfl, ha4, hfr4⟩
    rw [unhide HY] at ha4
    rw [unhide HY]
    simp only [tup2]
    have HA4 := hide ha4
    have HF4 := hide ((unhide HFR).trans hfr4)
    clear ha4 hfr4
    go_wp2_with fail
    refine (wjoin_any K.L K.n8 (unhide HA4) (unhide HO1).2.1 (unhide HO2).2.1).mono ?_
    rintro e w5 ⟨rfl, rfl⟩
    go_wp2_with fail
    go_ret2
    exact ⟨by rw [unhide HE2]; rfl, by rw [unhide HE2]; exact ⟨unhide HA4, unhide HF4⟩⟩
  · have HE2 := hide (show wk E (f + 1) mute i p st = (y1, y2, y3) by rw [unhide HE, if_neg (by omega)])
    rw [hc] at hbq
    clear hc
    go_enter Try.func59, Try.ntmps59
    go_wp2_with fail
    refine (Bottom_any _ _ _ _ _ _ _ K.n8 (unhide HO)).mono ?_
    rintro e w' ⟨rfl, rfl⟩
    go_wp2_with fail
    rw [show (i : Int) + 1 = ((i + 1 : Nat) : Int) by omega]
    refine (unhide IH _ mute st (i + 1) p x1 (unhide HH) (unhide HR) (unhide E1) hp hi1).mono ?_
    rintro e w1 ⟨rfl, ha, hfr⟩
    rw [unhide HX] at ha
    rw [unhide HX]
    simp only [tup2]
    have HA := hide ha
    have HFR := hide hfr
    clear ha hfr
    go_wp2_with fail
    refine (wjoin_any K.L K.n8 (unhide HA) hp (unhide HO1).2.1).mono ?_
    rintro e w3 ⟨rfl, rfl⟩
    go_wp2_with fail
    refine (unhide IH _ mute x3 x1 _ j (unhide HA) (unhide HO1).2.2 (unhide E2) (unhide HJ).1 hk1).mono ?_
    rintro e w4 ⟨rfl, ha4, hfr4⟩
    rw [unhide HY] at ha4
    rw [unhide HY]
    simp only [tup2]
    have HA4 := hide ha4
    have HF4 := hide ((unhide HFR).trans hfr4)
    clear ha4 hfr4
    go_wp2_with fail
    go_ret2
    exact ⟨by rw [unhide HE2]; rfl, by rw [unhide HE2]; exact ⟨unhide HA4, unhide HF4⟩⟩

set_option maxHeartbeats 2000000 in
set_option maxRecDepth 100000 in
theorem wstmt_eq (K : EnvOk E) (h : At E w mute st) (hr : InR E.n E.nv E.np st) (hf : wf0 E (f + 1) i = (j, false)) (hp : p < E.n) (hc : bt E.s i = 61) : Looks E (f + 1) w mute st i p := by
  unfold Looks
  obtain ⟨e1, e2⟩ := wfS_inv_eq hf hc
  have hi : i < E.s.size := bt_lt (by omega)
  have hs := K.sz
  have hbq := bt_eq E.s i hi
  have hi' : (i : Int) < (E.s.size : Int) := by omega
  have hi1 := isVar_lt e1
  have hi1' : (i : Int) + 1 < (E.s.size : Int) := by omega
  have hb1 := bt_eq E.s (i + 1) hi1
  have E2 := hide e2
  obtain ⟨k, ek, hk⟩ := isVar_nat e1
  have HC := hide (condW_ok (c := bt E.s) K.L K.n1 hr.V hp e2)
  have HE := hide (show wk E (f + 1) mute i p st = _ from wkS_eq hc)
  have HEK := hide (show (bt E.s (i + 1) - 97).toNat = k by omega)
  have hb1' : (E.s[i + 1].toNat : Int) = (k : Int) + 97 := by omega
  have hk8 : (k : Int) ≤ 8 := by have := K.nv; omega
  have k0 := h.cP
  have kS := h.cS
  have kO := h.cO
  have HH := hide h
  have HO := hide h.ord
  have HR := hide hr
  rw [hc] at hbq
  clear h hr hf e1 e2 hb1 ek hc
  rw [unhide HEK] at HE
  obtain ⟨x, HX⟩ : ∃ x, Hid (condW (bt E.s) E.R E.n st.V f (i + 2) p = x) := ⟨_, rfl⟩
  simp only [unhide HX] at HC HE
  obtain ⟨x1, x2, x3⟩ := x
  go_enter Try.func59, Try.ntmps59
  go_wp2_with fail
  refine (Bottom_any _ _ _ _ _ _ _ K.n8 (unhide HO)).mono ?_
  rintro e w' ⟨rfl, rfl⟩
  go_wp2_with fail
  rw [show (i : Int) + 2 = ((i + 2 : Nat) : Int) by omega]
  refine (wcond_any K.L K.n1 K.n8 K.sz K.nv (unhide HR) f _ (i + 2) j p (unhide HH) (unhide E2) hp).mono ?_
  rintro e w1 ⟨rfl, q, rfl⟩
  rw [unhide HX]
  simp only [tup3]
  go_wp2_with fail
  refine (atLeast_any K.S K.L K.n8 ((unhide HH).drewN q) (unhide HR) hk K.nv (unhide HC).2.1).mono ?_
  rintro e w3 ⟨rfl, ha, hfr⟩
  have HA := hide ha
  have HFR := hide ((Fr.drewN (Fr.refl E _) q).trans hfr)
  clear ha hfr
  go_wp2_with fail
  go_ret2
  exact ⟨by rw [unhide HE]; rfl, by rw [unhide HE]; exact ⟨unhide HA, unhide HFR⟩⟩

set_option maxHeartbeats 2000000 in
set_option maxRecDepth 100000 in
theorem wstmt_i (K : EnvOk E) (IH : Hid (WOk E f)) (h : At E w mute st) (hr : InR E.n E.nv E.np st) (hf : wf0 E (f + 1) i = (j, false)) (hp : p < E.n) (hc : bt E.s i = 105) : Looks E (f + 1) w mute st i p := by
  unfold Looks
  obtain ⟨k, m, e1, e2, e3⟩ := wfS_inv_i hf hc
  have hi : i < E.s.size := bt_lt (by omega)
  have hs := K.sz
  have hbq := bt_eq E.s i hi
  have hi' : (i : Int) < (E.s.size : Int) := by omega
  have hk1 := (wfS_lt _ _ _ e2).1
  have hm1 := (wfS_lt _ _ _ e3).1
  have E1 := hide e1
  have E2 := hide (show wf0 E f k = (m, false) from e2)
  have E3 := hide (show wf0 E f m = (j, false) from e3)
  have HC := hide (condW_ok (c := bt E.s) K.L K.n1 hr.V hp e1)
  have HE := hide (show wk E (f + 1) mute i p st = _ from wkS_i hc)
  have k0 := h.cP
  have kS := h.cS
  have kO := h.cO
  have HH := hide h
  have HO := hide h.ord
  have HR := hide hr
  rw [hc] at hbq
  clear h hr hf e1 e2 e3 hc
  obtain ⟨x, HX⟩ : ∃ x, Hid (condW (bt E.s) E.R E.n st.V f (i + 1) p = x) := ⟨_, rfl⟩
  simp only [unhide HX] at HC HE
  obtain ⟨x1, x2, x3⟩ := x
  have hx1 : x1 = k := (unhide HC).1
  subst hx1
  have HO1 := hide (wk_ok (mute := mute) K (unhide E2) (unhide HC).2.1 (unhide HR))
  obtain ⟨y, HY⟩ : ∃ y, Hid (wk E f mute x1 x2 st = y) := ⟨_, rfl⟩
  have HY' := hide (show wkS (bt E.s) E.R E.n (fixV (bt E.s) E.n) E.low f mute x1 x2 st = y from unhide HY)
  simp only [unhide HY, unhide HY'] at HO1 HE
  obtain ⟨y1, y2, y3⟩ := y
  have hy1 : y1 = m := (unhide HO1).1
  subst hy1
  have HO2 := hide (wk_ok (mute := mute) K (unhide E3) (unhide HC).2.1 (unhide HO1).2.2)
  obtain ⟨z, HZ⟩ : ∃ z, Hid (wk E f mute y1 x2 y3 = z) := ⟨_, rfl⟩
  have HZ' := hide (show wkS (bt E.s) E.R E.n (fixV (bt E.s) E.n) E.low f mute y1 x2 y3 = z from unhide HZ)
  simp only [unhide HZ, unhide HZ'] at HO2 HE
  obtain ⟨z1, z2, z3⟩ := z
  have HJ := hide (K.L.jn_lt (unhide HO1).2.1 (unhide HO2).2.1)
  go_enter Try.func59, Try.ntmps59
  go_wp2_with fail
  refine (Bottom_any _ _ _ _ _ _ _ K.n8 (unhide HO)).mono ?_
  rintro e w' ⟨rfl, rfl⟩
  go_wp2_with fail
  rw [show (i : Int) + 1 = ((i + 1 : Nat) : Int) by omega]
  refine (wcond_any K.L K.n1 K.n8 K.sz K.nv (unhide HR) f _ (i + 1) x1 p (unhide HH) (unhide E1) hp).mono ?_
  rintro e w1 ⟨rfl, q, rfl⟩
  rw [unhide HX]
  simp only [tup3]
  go_wp2_with fail
  refine (unhide IH _ mute st x1 x2 y1 ((unhide HH).drewN q) (unhide HR) (unhide E2) (unhide HC).2.1 hk1).mono ?_
  rintro e w3 ⟨rfl, ha, hfr⟩
  rw [unhide HY] at ha
  rw [unhide HY]
  simp only [tup2]
  have HA := hide ha
  have HFR := hide ((Fr.drewN (Fr.refl E _) q).trans hfr)
  clear ha hfr
  go_wp2_with fail
  refine (unhide IH _ mute y3 y1 x2 j (unhide HA) (unhide HO1).2.2 (unhide E3) (unhide HC).2.1 hm1).mono ?_
  rintro e w4 ⟨rfl, ha4, hfr4⟩
  rw [unhide HZ] at ha4
  rw [unhide HZ]
  simp only [tup2]
  have HA4 := hide ha4
  have HF4 := hide ((unhide HFR).trans hfr4)
  clear ha4 hfr4
  go_wp2_with fail
  refine (wjoin_any K.L K.n8 (unhide HA4) (unhide HO1).2.1 (unhide HO2).2.1).mono ?_
  rintro e w5 ⟨rfl, rfl⟩
  go_wp2_with fail
  refine (wjoin_any K.L K.n8 (unhide HA4) (unhide HC).2.2 (unhide HJ).1).mono ?_
  rintro e w5 ⟨rfl, rfl⟩
  go_wp2_with fail
  go_ret2
  exact ⟨by rw [unhide HE]; rfl, by rw [unhide HE]; exact ⟨unhide HA4, unhide HF4⟩⟩

set_option maxHeartbeats 2000000 in
set_option maxRecDepth 100000 in
theorem wstmt_w (K : EnvOk E) (IH : Hid (WOk E f)) (h : At E w mute st) (hr : InR E.n E.nv E.np st) (hf : wf0 E (f + 1) i = (j, false)) (hp : p < E.n) (hc : bt E.s i = 119) : Looks E (f + 1) w mute st i p := by
  unfold Looks
  obtain ⟨k, e1, e2⟩ := wfS_inv_w hf hc
  have hi : i < E.s.size := bt_lt (by omega)
  have hs := K.sz
  have hbq := bt_eq E.s i hi
  have hi' : (i : Int) < (E.s.size : Int) := by omega
  have hk1 := (wfS_lt _ _ _ e2).1
  have E1 := hide e1
  have E2 := hide (show wf0 E f k = (j, false) from e2)
  have HC := hide (condW_ok (c := bt E.s) K.L K.n1 hr.V hp e1)
  have HE := hide (show wk E (f + 1) mute i p st = _ from wkS_w hc)
  have k0 := h.cP
  have kS := h.cS
  have kO := h.cO
  have HH := hide h
  have HO := hide h.ord
  have HR := hide hr
  rw [hc] at hbq
  clear h hr hf e1 e2 hc
  obtain ⟨x, HX⟩ : ∃ x, Hid (condW (bt E.s) E.R E.n st.V f (i + 1) p = x) := ⟨_, rfl⟩
  simp only [unhide HX] at HC HE
  obtain ⟨x1, x2, x3⟩ := x
  have hx1 : x1 = k := (unhide HC).1
  subst hx1
  have HJ := hide (K.L.jn_lt (unhide HC).2.1 (unhide HC).2.2)
  have HO1 := hide (wk_ok (mute := true) K (unhide E2) (unhide HJ).1 (unhide HR))
  have HE2 := hide (show wk E (f + 1) mute i p st = ((wk E f true x1 (jn E.R E.n x2 x3) st).1, jn E.R E.n x3 (wk E f true x1 (jn E.R E.n x2 x3) st).2.1, loopSt E f mute x1 (jn E.R E.n x2 x3) st) from unhide HE)
  go_enter Try.func59, Try.ntmps59
  go_wp2_with fail
  refine (Bottom_any _ _ _ _ _ _ _ K.n8 (unhide HO)).mono ?_
  rintro e w' ⟨rfl, rfl⟩
  go_wp2_with fail
  rw [show (i : Int) + 1 = ((i + 1 : Nat) : Int) by omega]
  refine (wcond_any K.L K.n1 K.n8 K.sz K.nv (unhide HR) f _ (i + 1) x1 p (unhide HH) (unhide E1) hp).mono ?_
  rintro e w1 ⟨rfl, q, rfl⟩
  rw [unhide HX]
  simp only [tup3]
  go_wp2_with fail
  refine (wjoin_any K.L K.n8 ((unhide HH).drewN q) (unhide HC).2.1 (unhide HC).2.2).mono ?_
  rintro e w5 ⟨rfl, rfl⟩
  go_wp2_with fail
  refine (wloop_any K IH ((unhide HH).drewN q) (unhide HR) (unhide E2) (unhide HJ).1 hk1).mono ?_
  rintro e w3 ⟨rfl, ha, hfr⟩
  simp only [tup2]
  have HA := hide ha
  have HFR := hide ((Fr.drewN (Fr.refl E _) q).trans hfr)
  clear ha hfr
  generalize wk E f true x1 (jn E.R E.n x2 x3) st = y at *
  obtain ⟨y1, y2, y3⟩ := y
  go_wp2_with fail
  refine (wjoin_any K.L K.n8 (unhide HA) (unhide HC).2.2 (unhide HO1).2.1).mono ?_
  rintro e w5 ⟨rfl, rfl⟩
  go_wp2_with fail
  go_ret2
  exact ⟨by rw [unhide HE2]; rfl, by rw [unhide HE2]; exact ⟨unhide HA, unhide HFR⟩⟩

set_option maxHeartbeats 2000000 in
set_option maxRecDepth 100000 in
theorem wstmt_c (K : EnvOk E) (h : At E w mute st) (hr : InR E.n E.nv E.np st) (hf : wf0 E (f + 1) i = (j, false)) (hp : p < E.n) (hc : bt E.s i = 99) : Looks E (f + 1) w mute st i p := by
  unfold Looks
  obtain ⟨e1, rfl⟩ := wfS_inv_c hf hc
  have hi : i < E.s.size := bt_lt (by omega)
  have hs := K.sz
  have hbq := bt_eq E.s i hi
  have hi' : (i : Int) < (E.s.size : Int) := by omega
  have hi1 := isDB_lt e1
  have hi1' : (i : Int) + 1 < (E.s.size : Int) := by omega
  have hb1 := bt_eq E.s (i + 1) hi1
  have ⟨hb0, hb9⟩ := bt_bd E.s (i + 1)
  obtain ⟨k, ek, hk⟩ := isDB_nat e1
  have hk4 : k < 4 := by have := K.np; omega
  have HE := hide (show wk E (f + 1) mute i p st = _ from wkS_c hc)
  have HEK := hide (show (bt E.s (i + 1) - 48).toNat = k by omega)
  have HD := hide (show dgt (bt E.s (i + 1)) 4 = (k : Int) by
    unfold dgt
    rw [isDB_yes (by have := (isDB_iff _ _).1 e1; omega)]
    simpa using ek)
  have k0 := h.cP
  have kS := h.cS
  have kO := h.cO
  have HH := hide h
  have HO := hide h.ord
  have HR := hide hr
  rw [hc] at hbq
  clear h hr hf e1 ek hc
  rw [unhide HEK] at HE
  go_enter Try.func59, Try.ntmps59
  go_wp2_with fail
  refine (Bottom_any _ _ _ _ _ _ _ K.n8 (unhide HO)).mono ?_
  rintro e w' ⟨rfl, rfl⟩
  go_wp2_with fail
  refine (digit_any _ _ _ hb0 hb9).mono ?_
  rintro e w1 ⟨rfl, rfl⟩
  rw [unhide HD]
  go_wp2_with fail
  refine (call_any K.S K.L K.n8 (unhide HH) (unhide HR) hk K.np hp).mono ?_
  rintro e w3 ⟨rfl, ha, hfr⟩
  have HA := hide ha
  have HFR := hide hfr
  clear ha hfr
  go_wp2_with fail
  go_ret2
  exact ⟨by rw [unhide HE]; go_num, by rw [unhide HE]; exact ⟨unhide HA, unhide HFR⟩⟩

end Go.Proofs.Ytfcflnnleadpkaa

namespace Go.Proofs.Ytfcflnnleadpkaa
open Go.RowKit
variable {E : Env} {w : World} {mute : Bool} {st : WS} {f i j p : Nat}

set_option maxHeartbeats 2000000 in
set_option maxRecDepth 100000 in
theorem wstmt_o (K : EnvOk E) (h : At E w mute st) (hr : InR E.n E.nv E.np st) (hf : wf0 E (f + 1) i = (j, false)) (hp : p < E.n) (hc : bt E.s i = 111) : Looks E (f + 1) w mute st i p := by
  unfold Looks
  obtain ⟨e1, e2⟩ := wfS_inv_o hf hc
  have hi : i < E.s.size := bt_lt (by omega)
  have hs := K.sz
  have hbq := bt_eq E.s i hi
  have hi' : (i : Int) < (E.s.size : Int) := by omega
  have hi1 := isDB_lt e1
  have hi1' : (i : Int) + 1 < (E.s.size : Int) := by omega
  have hb1 := bt_eq E.s (i + 1) hi1
  have ⟨hb0, hb9⟩ := bt_bd E.s (i + 1)
  obtain ⟨d, ed, hd⟩ := isDB_nat e1
  have hwr : IntKind.i64.wrap ((i : Int) + 1) = (i : Int) + 1 := wrap_i64_id _ (by omega) (by omega)
  have q0 : (0 : Int) ≤ (i : Int) + 1 := by omega
  have E2 := hide e2
  have HC := hide (condW_ok (c := bt E.s) K.L K.n1 hr.V hp e2)
  have HE := hide (show wk E (f + 1) mute i p st = _ from wkS_o hc)
  have HEK := hide (show (bt E.s (i + 1) - 48).toNat = d by omega)
  have hD : dgt (bt E.s (i + 1)) E.n = (d : Int) := by
    unfold dgt
    rw [e1]
    simpa using ed
  have k0 := h.cP
  have kS := h.cS
  have kO := h.cO
  have kN := h.ord.cn
  have HH := hide h
  have HO := hide h.ord
  have HR := hide hr
  rw [hc] at hbq
  clear h hr hf e1 e2 ed hc
  rw [unhide HEK] at HE
  obtain ⟨x, HX⟩ : ∃ x, Hid (condW (bt E.s) E.R E.n st.V f (i + 2) p = x) := ⟨_, rfl⟩
  simp only [unhide HX] at HC HE
  obtain ⟨x1, x2, x3⟩ := x
  go_enter Try.func59, Try.ntmps59
  go_wp2_with fail
  refine (Bottom_any _ _ _ _ _ _ _ K.n8 (unhide HO)).mono ?_
  rintro e w' ⟨rfl, rfl⟩
  go_wp2_with fail
  go_quiet ((go_at_call 45; exact Calls.quiet_of_same (digit_any _ _ _ hb0 hb9)))
  go_wp2_with fail
  rw [show (i : Int) + 2 = ((i + 2 : Nat) : Int) by omega]
  refine (wcond_any K.L K.n1 K.n8 K.sz K.nv (unhide HR) f _ (i + 2) j p ((unhide HH).drewN _) (unhide E2) hp).mono ?_
  rintro e w1 ⟨rfl, q, rfl⟩
  rw [unhide HX]
  simp only [tup3]
  go_wp2_with fail
  refine (demand_any K.S ((unhide HH).drewN _) (unhide HC).2.1 hd).mono ?_
  rintro e w3 ⟨rfl, ha, hfr⟩
  have HA := hide ha
  have HFR := hide ((Fr.drewN (Fr.refl E _) _).trans hfr)
  clear ha hfr
  go_wp2_with fail
  go_ret2
  exact ⟨by rw [unhide HE]; rfl, by rw [unhide HE]; exact ⟨unhide HA, unhide HFR⟩⟩

set_option maxHeartbeats 2000000 in
set_option maxRecDepth 100000 in
theorem wstmt_r (K : EnvOk E) (h : At E w mute st) (hr : InR E.n E.nv E.np st) (hf : wf0 E (f + 1) i = (j, false)) (hp : p < E.n) (hc : bt E.s i = 114) : Looks E (f + 1) w mute st i p := by
  unfold Looks
  obtain ⟨e1, e2, rfl⟩ := wfS_inv_r hf hc
  have hi : i < E.s.size := bt_lt (by omega)
  have hs := K.sz
  have hbq := bt_eq E.s i hi
  have hi' : (i : Int) < (E.s.size : Int) := by omega
  have hi2 := isVar_lt e2
  have hi1 : i + 1 < E.s.size := by omega
  have hi1' : (i : Int) + 1 < (E.s.size : Int) := by omega
  have hi2' : (i : Int) + 2 < (E.s.size : Int) := by omega
  have hb1 := bt_eq E.s (i + 1) hi1
  have ⟨hb0, hb9⟩ := bt_bd E.s (i + 1)
  obtain ⟨d, ed, hd⟩ := isDB_nat e1
  obtain ⟨k, ek, hk⟩ := isVar_nat e2
  have hb2 : (E.s[i + 2].toNat : Int) = (k : Int) + 97 := by have := bt_eq E.s (i + 2) hi2; omega
  have hk8 : (k : Int) ≤ 8 := by have := K.nv; omega
  have hwr : IntKind.i64.wrap ((i : Int) + 1) = (i : Int) + 1 := wrap_i64_id _ (by omega) (by omega)
  have q0 : (0 : Int) ≤ (i : Int) + 1 := by omega
  have HE := hide (show wk E (f + 1) mute i p st = _ from wkS_r hc)
  have HEK := hide (show (bt E.s (i + 1) - 48).toNat = d ∧ (bt E.s (i + 2) - 97).toNat = k by omega)
  have HJ := hide (K.L.jn_lt hp hd)
  have HRD := hide (hr.dem (R := E.R) (mute := mute) (a := p) (b := d) (k := i))
  have hD : dgt (bt E.s (i + 1)) E.n = (d : Int) := by
    unfold dgt
    rw [e1]
    simpa using ed
  have k0 := h.cP
  have kS := h.cS
  have kO := h.cO
  have kN := h.ord.cn
  have HH := hide h
  have HO := hide h.ord
  have HR := hide hr
  rw [hc] at hbq
  clear h hr hf e1 e2 ed ek hc
  rw [(unhide HEK).1, (unhide HEK).2] at HE
  go_enter Try.func59, Try.ntmps59
  go_wp2_with fail
  refine (Bottom_any _ _ _ _ _ _ _ K.n8 (unhide HO)).mono ?_
  rintro e w' ⟨rfl, rfl⟩
  go_wp2_with fail
  go_quiet ((go_at_call 45; exact Calls.quiet_of_same (digit_any _ _ _ hb0 hb9)))
  go_wp2_with fail
  refine (wjoin_any K.L K.n8 ((unhide HH).drewN _) hp hd).mono ?_
  rintro e w5 ⟨rfl, rfl⟩
  go_wp2_with fail
  refine (demand_any K.S ((unhide HH).drewN _) hp hd).mono ?_
  rintro e w3 ⟨rfl, ha, hfr⟩
  have c0 := ha.cP
  have cS := ha.cS
  have HA := hide ha
  have HFR := hide ((Fr.drewN (Fr.refl E _) _).trans hfr)
  clear ha hfr
  go_wp2_with fail
  refine (atLeast_any K.S K.L K.n8 (unhide HA) (unhide HRD) hk K.nv (unhide HJ).1).mono ?_
  rintro e w4 ⟨rfl, ha4, hfr4⟩
  have HA4 := hide ha4
  have HF4 := hide ((unhide HFR).trans hfr4)
  clear ha4 hfr4
  go_wp2_with fail
  go_ret2
  exact ⟨by rw [unhide HE]; go_num, by rw [unhide HE]; exact ⟨unhide HA4, unhide HF4⟩⟩

theorem wstmt_ok (K : EnvOk E) (f : Nat) : WOk E f := by
  induction f with
  | zero => intro w mute st i p j _ _ h; simp [wf0, wfS] at h
  | succ f ih =>
    intro w mute st i p j h hr hf hp _
    rcases wfS_letter hf with hc | hc | hc | hc | hc | hc | hc | hc
    · exact wstmt_plain K h hc
    · exact wstmt_seq K ih h hr hf hp hc
    · exact wstmt_eq K h hr hf hp hc
    · exact wstmt_i K ih h hr hf hp hc
    · exact wstmt_w K ih h hr hf hp hc
    · exact wstmt_r K h hr hf hp hc
    · exact wstmt_o K h hr hf hp hc
    · exact wstmt_c K h hr hf hp hc

end Go.Proofs.Ytfcflnnleadpkaa

namespace Go.Proofs.Ytfcflnnleadpkaa
open Go.RowKit
variable {E : Env} {w : World} {mute : Bool} {st : WS} {f i j p : Nat}

theorem At.cM (h : At E w mute st) : w.cell? ⟨E.pb, 2, none⟩ = some (.int .i64 (E.main : Int)) := by rw [cell_of_row w _ 2 _ _ _ h.pg]; rfl
theorem At.cPr (h : At E w mute st) : w.cell? ⟨E.pb, 3, none⟩ = some (sl E.np E.gp E.cp) := by rw [cell_of_row w _ 3 _ _ _ h.pg]; rfl
/-- A throw turned. -/
theorem At.setT (S : Sep E) (h : At E w mute st) {k : Nat} (hk : k < E.np) (x : Nat) :
    At E (w.setCell ⟨E.gt, k, none⟩ (.int .i64 (x : Int))) mute { st with T := setF st.T k x } ∧ Fr E w (w.setCell ⟨E.gt, k, none⟩ (.int .i64 (x : Int))) := by
  have hnp : 0 < E.np := by omega
  obtain ⟨cur, hc, _⟩ := h.rt hnp
  have ho : ∀ j, j ≠ E.gt → (w.setCell ⟨E.gt, k, none⟩ (.int .i64 (x : Int))).heap[j]? = w.heap[j]? := fun j hj => Below.heap_setCell w _ _ j hj
  refine ⟨⟨(ho _ (ne_of_types h.wk hc (by decide))).trans h.wk, (ho _ (ne_of_types h.pg hc (by decide))).trans h.pg, (ho _ (ne_of_types h.lb hc (by decide))).trans h.lb, ?_,
    h.fx.of (fun hv => ho _ (Ne.symm (S.tf hv hnp))), h.ps.of (fun _ => ho _ (Ne.symm (S.tp hnp))), h.rv.of (fun hv => ho _ (S.vt hv hnp)), h.rx.of (fun _ => ho _ (S.xt hnp)), ?_⟩, ?_⟩
  · exact h.ord.keep (ho _ (by have := S.o1; have := S.bt hnp; omega)) (ho _ (by have := S.o2; have := S.bt hnp; omega)) (fun i hi => ho _ (by have := S.o3 i hi; have := S.bt hnp; omega))
  · have h2 := h.rt.set k (x : Int)
    rw [lv_set] at h2
    exact h2
  · exact ⟨rfl, rfl, rfl, by simp [World.setCell], fun j _ _ h3 => ho j (h3 hnp).2⟩

/-- One procedure: whether its throw is high enough (or was raised), and the labelling behind it. -/
def thrR (E : Env) (k : Nat) (b : Bool) (t : Nat) (st : WS) : Bool × WS :=
  if jn E.R E.n t (st.T k) = st.T k then (b, st)
  else if E.low = true then (b, { st with T := setF st.T k (jn E.R E.n t (st.T k)), ra := true }) else (false, st)
def thrS (E : Env) (f k : Nat) (a : Bool × WS) : Bool × WS :=
  thrR E k a.1 (wk E f false (E.P k).toNat (a.2.X k) a.2).2.1 (wk E f false (E.P k).toNat (a.2.X k) a.2).2.2
def allTo (E : Env) (f : Nat) (st : WS) : Nat → Bool × WS
  | 0 => (true, (wk E f false E.main (bot E.R E.n) st).2.2)
  | k + 1 => thrS E f k (allTo E f st k)
/-- Every statement of the program once. -/
def allW (E : Env) (f : Nat) (st : WS) : Bool × WS := allTo E f st E.np

/-- The program's parts are whole. -/
structure Parts (E : Env) (f : Nat) : Prop where
  main : ∃ j, wf0 E f E.main = (j, false)
  proc : ∀ k, k < E.np → ∃ (m j : Nat), E.P k = (m : Int) ∧ wf0 E f m = (j, false)

theorem allTo_ok (K : EnvOk E) (Q : Parts E f) (hr : InR E.n E.nv E.np st) : ∀ k, k ≤ E.np → InR E.n E.nv E.np (allTo E f st k).2 := by
  intro k
  induction k with
  | zero =>
    intro _
    obtain ⟨j, hj⟩ := Q.main
    exact (wk_ok K hj (bot_lt K.n1) hr).2.2
  | succ k ih =>
    intro hk
    have h0 := ih (by omega)
    obtain ⟨m, j, em, hj⟩ := Q.proc k (by omega)
    have h1 := wk_ok (mute := false) K hj (h0.X k (by omega)) h0
    have em' : (E.P k).toNat = m := by omega
    show InR E.n E.nv E.np (thrS E f k (allTo E f st k)).2
    unfold thrS thrR
    rw [em']
    split
    · exact h1.2.2
    · split
      · refine ⟨h1.2.2.V, h1.2.2.X, fun l hl => ?_⟩
        simp only [setF]
        split
        · exact (K.L.jn_lt h1.2.1 (h1.2.2.T k (by omega))).1
        · exact h1.2.2.T l hl
      · exact h1.2.2

/-- What every statement once is. -/
def AllOk (E : Env) (f : Nat) : Prop := ∀ (w : World) (st : WS), At E w false st → InR E.n E.nv E.np st →
    Calls Try.prog 41 #[.pointer (some ⟨E.wb, 0, none⟩)] w fun e w' => e = .returned (.bool (allW E f st).1) ∧ At E w' false (allW E f st).2 ∧ Fr E w w'

end Go.Proofs.Ytfcflnnleadpkaa

namespace Go.Proofs.Ytfcflnnleadpkaa
open Go.RowKit

/-- A Prog in memory. -/
structure Pg (E : Env) (w : World) : Prop where
  pg : w.heap[E.pb]? = some (.cells (pgC (.pointer (some ⟨E.ob, 0, none⟩)) E.s E.main (sl E.np E.gp E.cp) (sl E.nv E.gf E.cf)) 58 (0, 0))
  ord : Ord w E.ob E.g E.cap E.n E.rb E.R
  fx : Rw w E.gf E.nv (fixV (bt E.s) E.n)
  ps : Rw w E.gp E.np E.P

variable {E : Env} {w w' w0 w1 wa : World}

theorem Rw.lt {g m : Nat} {F : Nat → Int} (h : Rw w g m F) (hm : 0 < m) : g < w.heap.size := by
  obtain ⟨cur, h1, _⟩ := h hm
  exact (Array.getElem?_eq_some_iff.1 h1).1
theorem Pg.pbl (h : Pg E w) : E.pb < w.heap.size := (Array.getElem?_eq_some_iff.1 h.pg).1
theorem Pg.obl (h : Pg E w) : E.ob < w.heap.size := World.block_lt_of_cell? w _ h.ord.cn
theorem Pg.gl (h : Pg E w) (hn : 1 ≤ E.n) : E.g < w.heap.size := World.block_lt_of_cell? w _ (h.ord.row 0 (by omega))
theorem Pg.rbl (h : Pg E w) {i : Nat} (hi : i < E.n) : E.rb i < w.heap.size := World.block_lt_of_cell? w _ (h.ord.bel i 0 hi (by omega))
theorem Pg.keep (h : Pg E w) (hn : 1 ≤ E.n) (hb : ∀ k, k < w.heap.size → w'.heap[k]? = w.heap[k]?) : Pg E w' :=
  ⟨(hb _ h.pbl).trans h.pg, h.ord.keep (hb _ h.obl) (hb _ (h.gl hn)) (fun _ hi => hb _ (h.rbl hi)), h.fx.of (fun hv => hb _ (h.fx.lt hv)), h.ps.of (fun hv => hb _ (h.ps.lt hv))⟩
theorem Pg.below (h : Pg E w) (hn : 1 ≤ E.n) (hb : Below w.heap.size w w') : Pg E w' := h.keep hn hb.block
theorem Pg.cO (h : Pg E w) : w.cell? ⟨E.pb, 0, none⟩ = some (.pointer (some ⟨E.ob, 0, none⟩)) := by rw [cell_of_row w _ 0 _ _ _ h.pg]; rfl
theorem Pg.cPr (h : Pg E w) : w.cell? ⟨E.pb, 3, none⟩ = some (sl E.np E.gp E.cp) := by rw [cell_of_row w _ 3 _ _ _ h.pg]; rfl
theorem Pg.cF (h : Pg E w) : w.cell? ⟨E.pb, 4, none⟩ = some (sl E.nv E.gf E.cf) := by rw [cell_of_row w _ 4 _ _ _ h.pg]; rfl

/-- A labelling being built. -/
structure LI (w0 w : World) (vv xv tv : Value) (V X T : List Nat) : Prop where
  lab : w.heap[w0.heap.size]? = some (.cells #[vv, xv, tv] 100 (0, 0))
  vown : w.ownsRow (w0.heap.size + 1) 3 1 vv V.length (cells V)
  xown : w.ownsRow (w0.heap.size + 1) 3 1 xv X.length (cells X)
  town : w.ownsRow (w0.heap.size + 1) 3 1 tv T.length (cells T)
  vx : xv.ownBlock = none ∨ xv.ownBlock ≠ vv.ownBlock
  vt : tv.ownBlock = none ∨ tv.ownBlock ≠ vv.ownBlock
  xt : tv.ownBlock = none ∨ tv.ownBlock ≠ xv.ownBlock
  bel : Below w0.heap.size w0 w

variable {vv xv tv : Value} {V X T : List Nat}
theorem LI.c0 (h : LI w0 w vv xv tv V X T) : w.cell? ⟨w0.heap.size, 0, none⟩ = some vv := by rw [cell_of_row w _ 0 _ _ _ h.lab]; rfl
theorem LI.c1 (h : LI w0 w vv xv tv V X T) : w.cell? ⟨w0.heap.size, 1, none⟩ = some xv := by rw [cell_of_row w _ 1 _ _ _ h.lab]; rfl
theorem LI.c2 (h : LI w0 w vv xv tv V X T) : w.cell? ⟨w0.heap.size, 2, none⟩ = some tv := by rw [cell_of_row w _ 2 _ _ _ h.lab]; rfl
theorem LI.fz (h : LI w0 w vv xv tv V X T) (j : Nat) : w.frozen? ⟨w0.heap.size, j, none⟩ = false := frozen_of_row w _ j _ _ h.lab
theorem LI.lt (h : LI w0 w vv xv tv V X T) : w0.heap.size < w.heap.size := (Array.getElem?_eq_some_iff.1 h.lab).1
theorem ob_sym {a b : Option Nat} (h : a = none ∨ a ≠ b) : b = none ∨ b ≠ a := by
  rcases h with h | h
  · cases b with
    | none => exact Or.inl rfl
    | some x => exact Or.inr (by rw [h]; simp)
  · exact Or.inr (Ne.symm h)

/-- One cell appended to one of three rows, and the row's head stored. -/
theorem push_core {B lb gg cap j x : Nat} {C0 : Array Value} {ty : TypeId} {P : List Nat} {pv l1 l2 : Value} {n1 n2 : Nat} {x1 x2 : List Value}
    (hwa : wa.heap.size = w.heap.size + 1) (hab : Below w.heap.size w wa) (hlab : w.heap[lb]? = some (.cells C0 ty (0, 0))) (hB : lb < B)
    (hpown : w.ownsRow B 3 1 pv P.length (cells P)) (h1 : w.ownsRow B 3 1 l1 n1 x1) (h2 : w.ownsRow B 3 1 l2 n2 x2)
    (s1 : l1.ownBlock = none ∨ l1.ownBlock ≠ pv.ownBlock) (s2 : l2.ownBlock = none ∨ l2.ownBlock ≠ pv.ownBlock)
    (hown1 : w1.ownsRow B 3 1 (.slice (some ⟨gg, 0, none⟩) (P.length + 1) cap) (P.length + 1) (cells P ++ [.int .i64 (x : Int)]))
    (hgrow : wa.grownBy w1 pv.ownBlock) (hat : pv.ownBlock = some gg ∨ gg = w.heap.size + 1) :
    (w1.setCell ⟨lb, j, none⟩ (.slice (some ⟨gg, 0, none⟩) (P.length + 1) cap)).heap[lb]? = some (.cells (C0.setIfInBounds j (.slice (some ⟨gg, 0, none⟩) (P.length + 1) cap)) ty (0, 0)) ∧
    (w1.setCell ⟨lb, j, none⟩ (.slice (some ⟨gg, 0, none⟩) (P.length + 1) cap)).ownsRow B 3 1 (.slice (some ⟨gg, 0, none⟩) (P.length + 1) cap) (P ++ [x]).length (cells (P ++ [x])) ∧
    (w1.setCell ⟨lb, j, none⟩ (.slice (some ⟨gg, 0, none⟩) (P.length + 1) cap)).ownsRow B 3 1 l1 n1 x1 ∧
    (w1.setCell ⟨lb, j, none⟩ (.slice (some ⟨gg, 0, none⟩) (P.length + 1) cap)).ownsRow B 3 1 l2 n2 x2 ∧
    (l1.ownBlock = none ∨ l1.ownBlock ≠ some gg) ∧ (l2.ownBlock = none ∨ l2.ownBlock ≠ some gg) ∧
    Below lb w (w1.setCell ⟨lb, j, none⟩ (.slice (some ⟨gg, 0, none⟩) (P.length + 1) cap)) := by
  have hlb : lb < w.heap.size := (Array.getElem?_eq_some_iff.1 hlab).1
  have hpp : ∀ j, pv.ownBlock = some j → B ≤ j := fun j hj => (hpown.lt j hj).1
  have hb1 : ∀ k, k < w.heap.size → some k ≠ pv.ownBlock → w1.heap[k]? = w.heap[k]? := fun k hk hne => (hgrow.block k (by omega) hne).trans (hab.block k hk)
  have hl1 : w1.heap[lb]? = some (.cells C0 ty (0, 0)) := (hb1 lb hlb (fun e => by have := hpp lb e.symm; omega)).trans hlab
  rw [setCell_eq_setRow w1 lb _ _ _ _ _ hl1]
  have hgg := hown1.lt gg rfl
  have hb2 : ∀ k, k ≠ lb → (w1.setRow lb (C0.setIfInBounds j (.slice (some ⟨gg, 0, none⟩) (P.length + 1) cap))).heap[k]? = w1.heap[k]? := fun k hk => setRow_other w1 lb k _ hk
  have kb : ∀ (l : Value) (n : Nat) (xs : List Value), w.ownsRow B 3 1 l n xs → (l.ownBlock = none ∨ l.ownBlock ≠ pv.ownBlock) → ∀ g, l.ownBlock = some g → (w1.setRow lb (C0.setIfInBounds j (.slice (some ⟨gg, 0, none⟩) (P.length + 1) cap))).heap[g]? = w.heap[g]? := by
    intro l n xs hl hne g hg
    have hlt := hl.lt g hg
    refine (hb2 g (by omega)).trans (hb1 g hlt.2 (fun e => ?_))
    rcases hne with hn | hn
    · rw [hn] at hg; cases hg
    · exact hn (hg.trans e)
  have sep : ∀ (l : Value) (n : Nat) (xs : List Value), w.ownsRow B 3 1 l n xs → (l.ownBlock = none ∨ l.ownBlock ≠ pv.ownBlock) → l.ownBlock = none ∨ l.ownBlock ≠ some gg := by
    intro l n xs hl hne
    rcases hat with e | e
    · rw [← e]; exact hne
    · cases el : l.ownBlock with
      | none => exact Or.inl rfl
      | some g =>
        right
        intro e'
        have := (hl.lt g el).2
        simp at e'
        omega
  refine ⟨setRow_heap w1 lb _ _ _ _ hl1, ?_, ownsRow_keep h1 (kb l1 _ _ h1 s1), ownsRow_keep h2 (kb l2 _ _ h2 s2), sep l1 _ _ h1 s1, sep l2 _ _ h2 s2, ?_⟩
  · have h3 := ownsRow_keep hown1 (w' := w1.setRow lb (C0.setIfInBounds j (.slice (some ⟨gg, 0, none⟩) (P.length + 1) cap))) (fun g hg => hb2 g (by simp [Value.ownBlock] at hg; omega))
    rw [cells_snoc] at h3
    simpa using h3
  · exact ⟨hgrow.os.trans hab.os, hgrow.tape.trans hab.tape, hgrow.output.trans hab.output, by have := hgrow.size; simp at this ⊢; omega, fun k hk => (hb2 k (by omega)).trans (hb1 k (by omega) (fun e => by have := hpp k e.symm; omega))⟩

theorem LI.pushV {gg cap x : Nat} (h : LI w0 w vv xv tv V X T) (hwa : wa.heap.size = w.heap.size + 1) (hab : Below w.heap.size w wa)
    (hown1 : w1.ownsRow (w0.heap.size + 1) 3 1 (.slice (some ⟨gg, 0, none⟩) (V.length + 1) cap) (V.length + 1) (cells V ++ [.int .i64 (x : Int)]))
    (hgrow : wa.grownBy w1 vv.ownBlock) (hat : vv.ownBlock = some gg ∨ gg = w.heap.size + 1) :
    LI w0 (w1.setCell ⟨w0.heap.size, 0, none⟩ (.slice (some ⟨gg, 0, none⟩) (V.length + 1) cap)) (.slice (some ⟨gg, 0, none⟩) (V.length + 1) cap) xv tv (V ++ [x]) X T := by
  obtain ⟨a1, a2, a3, a4, a5, a6, a7⟩ := push_core (j := 0) hwa hab h.lab (Nat.lt_succ_self _) h.vown h.xown h.town h.vx h.vt hown1 hgrow hat
  exact ⟨a1, a2, a3, a4, a5, a6, h.xt, h.bel.trans a7⟩
theorem LI.pushX {gg cap x : Nat} (h : LI w0 w vv xv tv V X T) (hwa : wa.heap.size = w.heap.size + 1) (hab : Below w.heap.size w wa)
    (hown1 : w1.ownsRow (w0.heap.size + 1) 3 1 (.slice (some ⟨gg, 0, none⟩) (X.length + 1) cap) (X.length + 1) (cells X ++ [.int .i64 (x : Int)]))
    (hgrow : wa.grownBy w1 xv.ownBlock) (hat : xv.ownBlock = some gg ∨ gg = w.heap.size + 1) :
    LI w0 (w1.setCell ⟨w0.heap.size, 1, none⟩ (.slice (some ⟨gg, 0, none⟩) (X.length + 1) cap)) vv (.slice (some ⟨gg, 0, none⟩) (X.length + 1) cap) tv V (X ++ [x]) T := by
  obtain ⟨a1, a2, a3, a4, a5, a6, a7⟩ := push_core (j := 1) hwa hab h.lab (Nat.lt_succ_self _) h.xown h.vown h.town (ob_sym h.vx) h.xt hown1 hgrow hat
  exact ⟨a1, a3, a2, a4, ob_sym a5, h.vt, a6, h.bel.trans a7⟩
theorem LI.pushT {gg cap x : Nat} (h : LI w0 w vv xv tv V X T) (hwa : wa.heap.size = w.heap.size + 1) (hab : Below w.heap.size w wa)
    (hown1 : w1.ownsRow (w0.heap.size + 1) 3 1 (.slice (some ⟨gg, 0, none⟩) (T.length + 1) cap) (T.length + 1) (cells T ++ [.int .i64 (x : Int)]))
    (hgrow : wa.grownBy w1 tv.ownBlock) (hat : tv.ownBlock = some gg ∨ gg = w.heap.size + 1) :
    LI w0 (w1.setCell ⟨w0.heap.size, 2, none⟩ (.slice (some ⟨gg, 0, none⟩) (T.length + 1) cap)) vv xv (.slice (some ⟨gg, 0, none⟩) (T.length + 1) cap) V X (T ++ [x]) := by
  obtain ⟨a1, a2, a3, a4, a5, a6, a7⟩ := push_core (j := 2) hwa hab h.lab (Nat.lt_succ_self _) h.town h.vown h.xown (ob_sym h.vt) (ob_sym h.xt) hown1 hgrow hat
  exact ⟨a1, a3, a4, a2, h.vx, ob_sym a5, ob_sym a6, h.bel.trans a7⟩

/-- What the labelling begins as. -/
def v0 (E : Env) (k : Nat) : Nat := if 0 ≤ fixV (bt E.s) E.n k then (fixV (bt E.s) E.n k).toNat else bot E.R E.n
def st0 (E : Env) : WS := ⟨v0 E, fun _ => bot E.R E.n, fun _ => bot E.R E.n, false, -1⟩
def rsW (st : WS) : WS := { st with ra := false, bad := -1 }
def stepW (E : Env) (f : Nat) (st : WS) : WS := (allW { E with low := true } f (rsW st)).2
def lowR (E : Env) (f : Nat) : Nat → Bool → WS → WS
  | 0, _, st => st
  | g + 1, b, st => if b = true then lowR E f g (stepW E f st).ra (stepW E f st) else st
/-- The lowest labelling. -/
def lowW (E : Env) (f : Nat) : WS := lowR E f 129 true (st0 E)
theorem v0_lt (h : 1 ≤ E.n) (k : Nat) : v0 E k < E.n := by
  unfold v0
  split
  · rename_i hk
    unfold fixV dgt at hk ⊢
    split at hk
    · rename_i hd
      have := (isDB_iff _ _).1 hd
      rw [if_pos hd]
      omega
    · omega
  · exact bot_lt h
theorem st0_in (h : 1 ≤ E.n) : InR E.n E.nv E.np (st0 E) := ⟨fun k _ => v0_lt h k, fun _ _ => bot_lt h, fun _ _ => bot_lt h⟩

/-- All but the Walk. -/
structure At0 (E : Env) (w : World) (st : WS) : Prop where
  pg : Pg E w
  lb : w.heap[E.lb]? = some (.cells #[sl E.nv E.gv E.cv, sl E.np E.gx E.cx, sl E.np E.gt E.ct] 100 (0, 0))
  rv : Rw w E.gv E.nv (lv st.V)
  rx : Rw w E.gx E.np (lv st.X)
  rt : Rw w E.gt E.np (lv st.T)
theorem At.at0 {st : WS} {mute : Bool} (h : At E w mute st) : At0 E w st := ⟨⟨h.pg, h.ord, h.fx, h.ps⟩, h.lb, h.rv, h.rx, h.rt⟩

end Go.Proofs.Ytfcflnnleadpkaa
