import Derived.Test.YtfcflnnleadpkaaFpJ
namespace Go.Proofs.Ytfcflnnleadpkaa
open Go.RowKit
variable {D : FD} {w : World} {st : WS}

set_option maxHeartbeats 1000000 in
set_option maxRecDepth 100000 in
theorem dem_i (O : FOk D) (hr : InR D.n D.nv D.np st) {f i j p : Nat} (HX : ∀ f st, InR D.n D.nv D.np st → ExOk D st f) (DM : DmOk D f) (h : Fl D w st) (hw : wfS (bt D.s) D.nv D.n D.np (f + 1) i = (j, false)) (htb : tbS (bt D.s) D.nv D.n D.np D.T (f + 1) i) (hp : p < D.n) (hc : bt D.s i = 105) :
    Calls Try.prog 102 #[.pointer (some ⟨D.b, 0, none⟩), .int .i64 (i : Int), .int .i64 (p : Int)] w fun e w' => e = .returned (.tuple #[]) ∧ Fl D w' (pS (bt D.s) D.R D.n (fixV (bt D.s) D.n) (f + 1) i p st) ∧ Kf D.b w w' := by
  have hi : i < D.s.size := bt_lt (by rw [hc]; omega)
  have hbq := bt_eq D.s i hi
  rw [hc] at hbq
  have hi' : (i : Int) < (D.s.size : Int) := by omega
  have hi3 : (i : Int) < 300 := by have := O.sz; omega
  have p0 := h.pt (i := i) (k := 0) (by omega) (by omega)
  have p1 := h.pt (i := i) (k := 1) (by omega) (by omega)
  have p2 := h.pt (i := i) (k := 2) (by omega) (by omega)
  simp only [Nat.add_zero] at p0
  have k2 := h.tx
  have k1 := h.bo O.A
  have hbz : D.b < w.heap.size := (Array.getElem?_eq_some_iff.1 h).1
  obtain ⟨k, m, e1, e2, e3⟩ := wfS_inv_i hw hc
  obtain ⟨t0, t1, t2, tb1, tb2, tb3⟩ := htb.2.2.1 hc
  rw [e1] at t1 t2 tb2 tb3
  rw [e2] at t2 tb3
  obtain ⟨c1, a2, a3⟩ := condW_ok (c := bt D.s) O.A.L O.A.n1 hr.V hp e1
  obtain ⟨w1, _, _⟩ := wd_ok (c := bt D.s) O.A.L O.A.n1 hr.V hr.T f k _ m e2 a2
  obtain ⟨r1, _, _⟩ := pS_low (fx := fixV (bt D.s) D.n) (c := bt D.s) O.A f k _ m st e2 a2 hr
  have HE := hide (pS_i (c := bt D.s) (R := D.R) (n := D.n) (fx := fixV (bt D.s) D.n) (f := f) (p := p) (st := st) hc)
  rw [c1, w1] at HE
  rw [t0] at p0
  rw [t1] at p1
  rw [t2] at p2
  have HXX := hide HX
  have HDM := hide DM
  have HT1 := hide tb1
  have HT2 := hide tb2
  have HT3 := hide tb3
  have HS1 := hide e1
  have HS2 := hide e2
  have HS3 := hide e3
  clear hw htb t0 t1 t2 tb1 tb2 tb3 e1 e2 e3 HX DM w1 c1
  go_enter Try.func102, Try.ntmps102
  go_wp2_with fail
  refine (fUnder_at O hr (i := i + 1) (by omega) (unhide HXX f st hr) (PK.start h).fl (unhide HS1) (unhide HT1) hp).mono ?_
  rintro e w2 ⟨rfl, hb2⟩
  have hp2 := (PK.start h).below hb2
  have HP2 := hide hp2
  have q1 := hp2.c1
  clear hb2 hp2 p0 p1 p2 k1 k2
  generalize (condW (bt D.s) D.R D.n st.V f (i + 1) p).2.1 = x at *
  go_wp2_with fail
  refine ((unhide HDM).at (i := k) rfl (unhide HP2).fl hr (unhide HS2) (unhide HT2) a2).mono ?_
  rintro e w3 ⟨rfl, hf3, hk3⟩
  have hp3 := (unhide HP2).next hf3 hk3
  have HP3 := hide hp3
  have q2 := hp3.c2
  clear hf3 hk3 hp3 q1
  generalize pS (bt D.s) D.R D.n (fixV (bt D.s) D.n) f k x st = st1 at *
  go_wp2_with fail
  refine ((unhide HDM).at (i := m) rfl (unhide HP3).fl r1 (unhide HS3) (unhide HT3) a2).mono ?_
  rintro e w4 ⟨rfl, hf4, hk4⟩
  have HP4 := hide ((unhide HP3).next hf4 hk4)
  clear hf4 hk4
  go_wp2_with fail
  go_end0
  exact ⟨rfl, by rw [unhide HE]; exact (unhide HP4).fl, (unhide HP4).kf⟩

set_option maxHeartbeats 1000000 in
set_option maxRecDepth 100000 in
theorem dem_w (O : FOk D) (hr : InR D.n D.nv D.np st) {f i j p : Nat} (HX : ∀ f st, InR D.n D.nv D.np st → ExOk D st f) (TH : ∀ st, InR D.n D.nv D.np st → ThOk D st f) (DM : DmOk D f) (h : Fl D w st) (hw : wfS (bt D.s) D.nv D.n D.np (f + 1) i = (j, false)) (htb : tbS (bt D.s) D.nv D.n D.np D.T (f + 1) i) (hp : p < D.n) (hc : bt D.s i = 119) :
    Calls Try.prog 102 #[.pointer (some ⟨D.b, 0, none⟩), .int .i64 (i : Int), .int .i64 (p : Int)] w fun e w' => e = .returned (.tuple #[]) ∧ Fl D w' (pS (bt D.s) D.R D.n (fixV (bt D.s) D.n) (f + 1) i p st) ∧ Kf D.b w w' := by
  have hi : i < D.s.size := bt_lt (by rw [hc]; omega)
  have hbq := bt_eq D.s i hi
  rw [hc] at hbq
  have hi' : (i : Int) < (D.s.size : Int) := by omega
  have hi3 : (i : Int) < 300 := by have := O.sz; omega
  have p0 := h.pt (i := i) (k := 0) (by omega) (by omega)
  have p1 := h.pt (i := i) (k := 1) (by omega) (by omega)
  have p2 := h.pt (i := i) (k := 2) (by omega) (by omega)
  simp only [Nat.add_zero] at p0
  have k2 := h.tx
  have k1 := h.bo O.A
  have hbz : D.b < w.heap.size := (Array.getElem?_eq_some_iff.1 h).1
  obtain ⟨k, e1, e2⟩ := wfS_inv_w hw hc
  obtain ⟨t0, t1, tb1, tb2⟩ := htb.2.2.2.1 hc
  rw [e1] at t1 tb2
  obtain ⟨c1, a2, a3⟩ := condW_ok (c := bt D.s) O.A.L O.A.n1 hr.V hp e1
  have hrr := O.A.lt a2 a3
  obtain ⟨w1, b2, _⟩ := wd_ok (c := bt D.s) O.A.L O.A.n1 hr.V hr.T f k _ j e2 hrr
  have HE := hide (pS_w (c := bt D.s) (R := D.R) (n := D.n) (fx := fixV (bt D.s) D.n) (f := f) (p := p) (st := st) hc)
  rw [c1] at HE
  rw [t0] at p0
  rw [t1] at p1
  have HXX := hide HX
  have HTH := hide TH
  have HDM := hide DM
  have HT1 := hide tb1
  have HT2 := hide tb2
  have HS1 := hide e1
  have HS2 := hide e2
  clear hw htb t0 t1 tb1 tb2 e1 e2 TH HX DM w1 c1
  go_enter Try.func102, Try.ntmps102
  go_wp2_with fail
  refine (fInside_at O hr (i := i + 1) (by omega) (unhide HXX f st hr) (PK.start h).fl (unhide HS1) (unhide HT1) hp).mono ?_
  rintro e w2 ⟨rfl, hb2⟩
  have hp2 := (PK.start h).below hb2
  have HP2 := hide hp2
  have q1 := hp2.c1
  clear hb2 hp2 p0 p1 p2 k1 k2
  generalize jn D.R D.n (condW (bt D.s) D.R D.n st.V f (i + 1) p).2.1 (condW (bt D.s) D.R D.n st.V f (i + 1) p).2.2 = x at *
  go_wp2_with fail
  refine (fBehind_at O hr (i := k) rfl (unhide HTH st hr) (unhide HP2).fl (unhide HS2) (unhide HT2) hrr).mono ?_
  rintro e w3 ⟨rfl, hb3⟩
  have hp3 := (unhide HP2).below hb3
  have HP3 := hide hp3
  have q11 := hp3.c1
  clear hb3 hp3 q1
  have hx := O.A.lt hrr b2
  generalize jn D.R D.n x (wd (bt D.s) D.R D.n st.V st.T f k x).2.1 = y at *
  go_wp2_with fail
  refine ((unhide HDM).at (i := k) rfl (unhide HP3).fl hr (unhide HS2) (unhide HT2) hx).mono ?_
  rintro e w4 ⟨rfl, hf4, hk4⟩
  have HP4 := hide ((unhide HP3).next hf4 hk4)
  clear hf4 hk4
  go_wp2_with fail
  go_end0
  exact ⟨rfl, by rw [unhide HE]; exact (unhide HP4).fl, (unhide HP4).kf⟩

set_option maxHeartbeats 1000000 in
set_option maxRecDepth 100000 in
theorem dem_r (O : FOk D) (hr : InR D.n D.nv D.np st) {f i j p : Nat} (VO : VOk D) (h : Fl D w st) (hw : wfS (bt D.s) D.nv D.n D.np (f + 1) i = (j, false)) (htb : tbS (bt D.s) D.nv D.n D.np D.T (f + 1) i) (hp : p < D.n) (hc : bt D.s i = 114) :
    Calls Try.prog 102 #[.pointer (some ⟨D.b, 0, none⟩), .int .i64 (i : Int), .int .i64 (p : Int)] w fun e w' => e = .returned (.tuple #[]) ∧ Fl D w' (pS (bt D.s) D.R D.n (fixV (bt D.s) D.n) (f + 1) i p st) ∧ Kf D.b w w' := by
  have hi : i < D.s.size := bt_lt (by rw [hc]; omega)
  have hbq := bt_eq D.s i hi
  rw [hc] at hbq
  have hi' : (i : Int) < (D.s.size : Int) := by omega
  have hi3 : (i : Int) < 300 := by have := O.sz; omega
  have p0 := h.pt (i := i) (k := 0) (by omega) (by omega)
  have p1 := h.pt (i := i) (k := 1) (by omega) (by omega)
  have p2 := h.pt (i := i) (k := 2) (by omega) (by omega)
  simp only [Nat.add_zero] at p0
  have k2 := h.tx
  have k1 := h.bo O.A
  have hbz : D.b < w.heap.size := (Array.getElem?_eq_some_iff.1 h).1
  obtain ⟨e1, e2, _⟩ := wfS_inv_r hw hc
  obtain ⟨t0, t1⟩ := htb.2.2.2.2.1 hc
  obtain ⟨d, ed, hd⟩ := isDB_nat e1
  obtain ⟨k, ek, hk⟩ := isVar_nat e2
  have hi1 : i + 1 < D.s.size := isDB_lt e1
  have hi2 : i + 2 < D.s.size := isVar_lt e2
  have HE := hide (pS_r (c := bt D.s) (R := D.R) (n := D.n) (fx := fixV (bt D.s) D.n) (f := f) (p := p) (st := st) hc)
  rw [ed, ek] at HE
  rw [t0] at p0
  rw [t1] at p1
  have HEK := hide ek
  have r1 := (demP_low (fx := fixV (bt D.s) D.n) (a := p) (k := i) (tg := .lev d) (b := d) O.A hr rfl (fun h => h)).1
  clear hw htb t0 t1 e1 e2 ek
  go_enter Try.func102, Try.ntmps102
  go_wp2_with fail
  go_region_with (go_at_call 100; refine (pDigit_at _ _ 134 (i + 1) D.s (by omega) ((PK.start h).fl.drew).tx hi1 ed).mono ?_; rintro e w' ⟨rfl, rfl⟩)
  all_goals
    go_wp2_with fail
    refine (fDemB O (PK.start h).drew.fl hp hd).mono ?_
    rintro e w2 ⟨rfl, hf2, hk2⟩
    have hp2 := (PK.start h).drew.next hf2 hk2
    have HP2 := hide hp2
    have q1 := hp2.c1
    clear hf2 hk2 hp2 p0 p1 p2 k1 k2
    go_wp2_with fail
    refine (fJoin O.A O.n8 (unhide HP2).fl hp hd).mono ?_
    rintro e w' ⟨rfl, hw'⟩
    rw [hw']
    clear hw'
    go_wp2_with fail
    refine (fDemV O VO r1 (unhide HP2).fl (m := i + 2) (by omega) hi2 (unhide HEK) hk (O.A.lt hp hd)).mono ?_
    rintro e w3 ⟨rfl, hf3, hk3⟩
    have HP3 := hide ((unhide HP2).next hf3 hk3)
    clear hf3 hk3
    go_wp2_with fail
    go_end0
    exact ⟨rfl, by rw [unhide HE]; exact (unhide HP3).fl, (unhide HP3).kf⟩

set_option maxHeartbeats 1000000 in
set_option maxRecDepth 100000 in
theorem dem_o (O : FOk D) (hr : InR D.n D.nv D.np st) {f i j p : Nat} (HX : ∀ f st, InR D.n D.nv D.np st → ExOk D st f) (h : Fl D w st) (hw : wfS (bt D.s) D.nv D.n D.np (f + 1) i = (j, false)) (htb : tbS (bt D.s) D.nv D.n D.np D.T (f + 1) i) (hp : p < D.n) (hc : bt D.s i = 111) :
    Calls Try.prog 102 #[.pointer (some ⟨D.b, 0, none⟩), .int .i64 (i : Int), .int .i64 (p : Int)] w fun e w' => e = .returned (.tuple #[]) ∧ Fl D w' (pS (bt D.s) D.R D.n (fixV (bt D.s) D.n) (f + 1) i p st) ∧ Kf D.b w w' := by
  have hi : i < D.s.size := bt_lt (by rw [hc]; omega)
  have hbq := bt_eq D.s i hi
  rw [hc] at hbq
  have hi' : (i : Int) < (D.s.size : Int) := by omega
  have hi3 : (i : Int) < 300 := by have := O.sz; omega
  have p0 := h.pt (i := i) (k := 0) (by omega) (by omega)
  have p1 := h.pt (i := i) (k := 1) (by omega) (by omega)
  have p2 := h.pt (i := i) (k := 2) (by omega) (by omega)
  simp only [Nat.add_zero] at p0
  have k2 := h.tx
  have k1 := h.bo O.A
  have hbz : D.b < w.heap.size := (Array.getElem?_eq_some_iff.1 h).1
  obtain ⟨e1, e2⟩ := wfS_inv_o hw hc
  obtain ⟨t0, t1, t2⟩ := htb.2.2.2.2.2.1 hc
  have HE := hide (pS_o (c := bt D.s) (R := D.R) (n := D.n) (fx := fixV (bt D.s) D.n) (f := f) (p := p) (st := st) hc)
  obtain ⟨d, ed, hd⟩ := isDB_nat e1
  have hi1 : i + 1 < D.s.size := isDB_lt e1
  rw [ed] at HE
  obtain ⟨_, a2, _⟩ := condW_ok (c := bt D.s) O.A.L O.A.n1 hr.V hp e2
  rw [t0] at p0
  rw [t1] at p1
  have HXX := hide HX
  have HT := hide t2
  have HS := hide e2
  clear hw htb t0 t1 t2 e2 HX e1
  go_enter Try.func102, Try.ntmps102
  go_wp2_with fail
  refine (fUnder_at O hr (i := i + 2) (by omega) (unhide HXX f st hr) (PK.start h).fl (unhide HS) (unhide HT) hp).mono ?_
  rintro e w2 ⟨rfl, hb2⟩
  have hp2 := (PK.start h).below hb2
  have HP2 := hide hp2
  have q0 := hp2.c0
  clear hb2 hp2 p0 p1 p2 k1 k2
  generalize (condW (bt D.s) D.R D.n st.V f (i + 2) p).2.1 = x at *
  go_wp2_with fail
  go_region_with (first
    | (go_at_call 100; refine (pDigit_at _ _ 134 (i + 1) D.s (by omega) ((unhide HP2).fl.drew).tx hi1 ed).mono ?_; rintro e w' ⟨rfl, rfl⟩)
    | (go_at_call 116; refine (fDemB O (unhide HP2).fl.drew a2 hd).mono ?_; rintro e w3 ⟨rfl, hf3, hk3⟩; have HP3 := hide ((unhide HP2).drew.next hf3 hk3); clear hf3 hk3))
  all_goals
    go_wp2_with fail
    go_end0
    exact ⟨rfl, by rw [unhide HE]; exact (unhide HP3).fl, (unhide HP3).kf⟩

set_option maxHeartbeats 1000000 in
set_option maxRecDepth 100000 in
theorem dem_c (O : FOk D) (hr : InR D.n D.nv D.np st) {f i j p : Nat} (h : Fl D w st) (hw : wfS (bt D.s) D.nv D.n D.np (f + 1) i = (j, false)) (htb : tbS (bt D.s) D.nv D.n D.np D.T (f + 1) i) (hp : p < D.n) (hc : bt D.s i = 99) :
    Calls Try.prog 102 #[.pointer (some ⟨D.b, 0, none⟩), .int .i64 (i : Int), .int .i64 (p : Int)] w fun e w' => e = .returned (.tuple #[]) ∧ Fl D w' (pS (bt D.s) D.R D.n (fixV (bt D.s) D.n) (f + 1) i p st) ∧ Kf D.b w w' := by
  have hi : i < D.s.size := bt_lt (by rw [hc]; omega)
  have hbq := bt_eq D.s i hi
  rw [hc] at hbq
  have hi' : (i : Int) < (D.s.size : Int) := by omega
  have hi3 : (i : Int) < 300 := by have := O.sz; omega
  have p0 := h.pt (i := i) (k := 0) (by omega) (by omega)
  have p1 := h.pt (i := i) (k := 1) (by omega) (by omega)
  have p2 := h.pt (i := i) (k := 2) (by omega) (by omega)
  simp only [Nat.add_zero] at p0
  have k2 := h.tx
  have k1 := h.bo O.A
  have hbz : D.b < w.heap.size := (Array.getElem?_eq_some_iff.1 h).1
  obtain ⟨e1, _⟩ := wfS_inv_c hw hc
  have t0 := htb.2.2.2.2.2.2 hc
  obtain ⟨d, ed, hd⟩ := isDB_nat e1
  have hi1 : i + 1 < D.s.size := isDB_lt e1
  have HE := hide (pS_c (c := bt D.s) (R := D.R) (n := D.n) (fx := fixV (bt D.s) D.n) (f := f) (p := p) (st := st) hc)
  rw [ed] at HE
  rw [t0] at p0
  have hd4n : d < 4 := by have := O.np; omega
  have kx := h.lx (k := d) hd4n
  have hd4 : (d : Int) < 4 := by omega
  have hXd := hr.X d hd
  clear hw htb t0 e1
  go_enter Try.func102, Try.ntmps102
  go_wp2_with fail
  go_region_with (go_at_call 100; refine (pDigit_at _ _ 134 (i + 1) D.s (by omega) ((PK.start h).fl.drew).tx hi1 ed).mono ?_; rintro e w' ⟨rfl, rfl⟩)
  all_goals
    go_wp2_with fail
    go_region_with (go_at_call 104; refine (fRaise O (PK.start h).fl.drew.drew hXd hp).mono ?_; rintro e w2 ⟨rfl, hf2, hk2⟩; have HP2 := hide ((PK.start h).drew.drew.next hf2 hk2); have kx2 := hf2.lx (k := d) hd4n; have zx2 := hf2.fz (1054 + d); clear hf2 hk2)
    all_goals
      go_wp2_with fail
      go_end0
      refine ⟨rfl, ?_, (unhide HP2).kf.setCell _ _ (unhide HP2).fl⟩
      have h9 := (unhide HP2).fl.setX (x := jn D.R D.n (st.X d) p) hd4n
      rw [(raF_V (D := D) (st := st)).2.1] at h9
      rw [unhide HE, show ((d : Int)).toNat = d from rfl, raX_set]
      exact h9

theorem fDemand (O : FOk D) (VO : VOk D) (HX : ∀ f st, InR D.n D.nv D.np st → ExOk D st f) (TH : ∀ f st, InR D.n D.nv D.np st → ThOk D st f) : ∀ f, DmOk D f := by
  intro f
  induction f with
  | zero => intro w st i p j _ _ h; simp [wfS] at h
  | succ f ih =>
    intro w st i p j h hr hw htb hp
    rcases wfS_letter hw with hc | hc | hc | hc | hc | hc | hc | hc
    · rcases hc with hc | hc
      · exact dem_dot O h hw hc
      · exact dem_x O h hw hc
    · rcases hc with hc | hc
      · exact dem_seq O hr (TH f) ih h hw htb hp hc
      · exact dem_t O hr (TH f) ih h hw htb hp hc
    · exact dem_eq O hr VO HX h hw htb hp hc
    · exact dem_i O hr HX ih h hw htb hp hc
    · exact dem_w O hr HX (TH f) ih h hw htb hp hc
    · exact dem_r O hr VO h hw htb hp hc
    · exact dem_o O hr HX h hw htb hp hc
    · exact dem_c O hr h hw htb hp hc

end Go.Proofs.Ytfcflnnleadpkaa
