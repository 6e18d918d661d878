import Derived.Test.YtfcflnnleadpkaaGreatFhJ
import Derived.Test.YtfcflnnleadpkaaGreatFgJ
namespace Go.Proofs.YtfcflnnleadpkaaGreat
open Go.RowKit
variable {D : FD} {w : World} {st : WS}

set_option maxHeartbeats 1000000 in
set_option maxRecDepth 100000 in
theorem dem_i (O : FOk D) (hr : InR D.n D.nv D.np st) {f i j p : Nat} (HX : ∀ f st, InR D.n D.nv D.np st → ExOk D st f) (DM : DmOk D f) (h : Fl D w st) (hw : wfS (bt D.s) D.nv D.n D.np (f + 1) i = (j, false)) (htb : tbS (bt D.s) D.nv D.n D.np D.T (f + 1) i) (hp : p < D.n) (hc : bt D.s i = 105) :
    Calls Tryz.prog 84 #[.pointer (some ⟨D.b, 0, none⟩), .int .i64 (i : Int), .int .i64 (p : Int)] w fun e w' => e = .returned (.tuple #[]) ∧ Fl D w' (pS (bt D.s) D.R D.n (fixV (bt D.s) D.n) (f + 1) i p st) ∧ Kf D.b w w' := by
  have hi : i < D.s.size := bt_lt (by rw [hc]; omega)
  have hbq := bt_eq D.s i hi
  rw [hc] at hbq
  have hi' : (i : Int) < (D.s.size : Int) := by omega
  have hi3 : (i : Int) < 300 := by have := O.sz; omega
  have p0 := h.pt (i := i) (k := 0) (by omega) (by omega)
  have p1 := h.pt (i := i) (k := 1) (by omega) (by omega)
  have p2 := h.pt (i := i) (k := 2) (by omega) (by omega)
  simp only [Nat.add_zero] at p0
  have k2 := h.tx
  have k1 := h.bo O.A
  have hbz : D.b < w.heap.size := (Array.getElem?_eq_some_iff.1 h).1
  obtain ⟨k, m, e1, e2, e3⟩ := wfS_inv_i hw hc
  obtain ⟨t0, t1, t2, tb1, tb2, tb3⟩ := htb.2.2.1 hc
  rw [e1] at t1 t2 tb2 tb3
  rw [e2] at t2 tb3
  obtain ⟨c1, a2, a3⟩ := condW_ok (c := bt D.s) O.A.L O.A.n1 hr.V hp e1
  obtain ⟨w1, _, _⟩ := wd_ok (c := bt D.s) O.A.L O.A.n1 hr.V hr.T f k _ m e2 a2
  obtain ⟨r1, _, _⟩ := pS_low (fx := fixV (bt D.s) D.n) (c := bt D.s) O.A f k _ m st e2 a2 hr
  have HE := hide (pS_i (c := bt D.s) (R := D.R) (n := D.n) (fx := fixV (bt D.s) D.n) (f := f) (p := p) (st := st) hc)
  rw [c1, w1] at HE
  rw [t0] at p0
  rw [t1] at p1
  rw [t2] at p2
  have HXX := hide HX
  have HDM := hide DM
  have HT1 := hide tb1
  have HT2 := hide tb2
  have HT3 := hide tb3
  have HS1 := hide e1
  have HS2 := hide e2
  have HS3 := hide e3
  clear hw htb t0 t1 t2 tb1 tb2 tb3 e1 e2 e3 HX DM w1 c1
  go_enter Tryz.func84, Tryz.ntmps84
  go_wp2_with fail
  refine (fUnder_at O hr (i := i + 1) (by omega) (unhide HXX f st hr) (PK.start h).fl (unhide HS1) (unhide HT1) hp).mono ?_
  rintro e w2 ⟨rfl, hb2⟩
  have hp2 := (PK.start h).below hb2
  have HP2 := hide hp2
  have q1 := hp2.c1
  clear hb2 hp2 p0 p1 p2 k1 k2
  generalize (condW (bt D.s) D.R D.n st.V f (i + 1) p).2.1 = x at *
  go_wp2_with fail
  refine ((unhide HDM).at (i := k) rfl (unhide HP2).fl hr (unhide HS2) (unhide HT2) a2).mono ?_
  rintro e w3 ⟨rfl, hf3, hk3⟩
  have hp3 := (unhide HP2).next hf3 hk3
  have HP3 := hide hp3
  have q2 := hp3.c2
  clear hf3 hk3 hp3 q1
  generalize pS (bt D.s) D.R D.n (fixV (bt D.s) D.n) f k x st = st1 at *
  go_wp2_with fail
  refine ((unhide HDM).at (i := m) rfl (unhide HP3).fl r1 (unhide HS3) (unhide HT3) a2).mono ?_
  rintro e w4 ⟨rfl, hf4, hk4⟩
  have HP4 := hide ((unhide HP3).next hf4 hk4)
  clear hf4 hk4
  go_wp2_with fail
  go_end0
  exact ⟨rfl, by rw [unhide HE]; exact (unhide HP4).fl, (unhide HP4).kf⟩

set_option maxHeartbeats 1000000 in
set_option maxRecDepth 100000 in
theorem dem_w (O : FOk D) (hr : InR D.n D.nv D.np st) {f i j p : Nat} (HX : ∀ f st, InR D.n D.nv D.np st → ExOk D st f) (TH : ∀ st, InR D.n D.nv D.np st → ThOk D st f) (DM : DmOk D f) (h : Fl D w st) (hw : wfS (bt D.s) D.nv D.n D.np (f + 1) i = (j, false)) (htb : tbS (bt D.s) D.nv D.n D.np D.T (f + 1) i) (hp : p < D.n) (hc : bt D.s i = 119) :
    Calls Tryz.prog 84 #[.pointer (some ⟨D.b, 0, none⟩), .int .i64 (i : Int), .int .i64 (p : Int)] w fun e w' => e = .returned (.tuple #[]) ∧ Fl D w' (pS (bt D.s) D.R D.n (fixV (bt D.s) D.n) (f + 1) i p st) ∧ Kf D.b w w' := by
  have hi : i < D.s.size := bt_lt (by rw [hc]; omega)
  have hbq := bt_eq D.s i hi
  rw [hc] at hbq
  have hi' : (i : Int) < (D.s.size : Int) := by omega
  have hi3 : (i : Int) < 300 := by have := O.sz; omega
  have p0 := h.pt (i := i) (k := 0) (by omega) (by omega)
  have p1 := h.pt (i := i) (k := 1) (by omega) (by omega)
  have p2 := h.pt (i := i) (k := 2) (by omega) (by omega)
  simp only [Nat.add_zero] at p0
  have k2 := h.tx
  have k1 := h.bo O.A
  have hbz : D.b < w.heap.size := (Array.getElem?_eq_some_iff.1 h).1
  obtain ⟨k, e1, e2⟩ := wfS_inv_w hw hc
  obtain ⟨t0, t1, tb1, tb2⟩ := htb.2.2.2.1 hc
  rw [e1] at t1 tb2
  obtain ⟨c1, a2, a3⟩ := condW_ok (c := bt D.s) O.A.L O.A.n1 hr.V hp e1
  have hrr := O.A.lt a2 a3
  obtain ⟨w1, b2, _⟩ := wd_ok (c := bt D.s) O.A.L O.A.n1 hr.V hr.T f k _ j e2 hrr
  have HE := hide (pS_w (c := bt D.s) (R := D.R) (n := D.n) (fx := fixV (bt D.s) D.n) (f := f) (p := p) (st := st) hc)
  rw [c1] at HE
  rw [t0] at p0
  rw [t1] at p1
  have HXX := hide HX
  have HTH := hide TH
  have HDM := hide DM
  have HT1 := hide tb1
  have HT2 := hide tb2
  have HS1 := hide e1
  have HS2 := hide e2
  clear hw htb t0 t1 tb1 tb2 e1 e2 TH HX DM w1 c1
  go_enter Tryz.func84, Tryz.ntmps84
  go_wp2_with fail
  refine (fInside_at O hr (i := i + 1) (by omega) (unhide HXX f st hr) (PK.start h).fl (unhide HS1) (unhide HT1) hp).mono ?_
  rintro e w2 ⟨rfl, hb2⟩
  have hp2 := (PK.start h).below hb2
  have HP2 := hide hp2
  have q1 := hp2.c1
  clear hb2 hp2 p0 p1 p2 k1 k2
  generalize jn D.R D.n (condW (bt D.s) D.R D.n st.V f (i + 1) p).2.1 (condW (bt D.s) D.R D.n st.V f (i + 1) p).2.2 = x at *
  go_wp2_with fail
  refine (fBehind_at O hr (i := k) rfl (unhide HTH st hr) (unhide HP2).fl (unhide HS2) (unhide HT2) hrr).mono ?_
  rintro e w3 ⟨rfl, hb3⟩
  have hp3 := (unhide HP2).below hb3
  have HP3 := hide hp3
  have q11 := hp3.c1
  clear hb3 hp3 q1
  have hx := O.A.lt hrr b2
  generalize jn D.R D.n x (wd (bt D.s) D.R D.n st.V st.T f k x).2.1 = y at *
  go_wp2_with fail
  refine ((unhide HDM).at (i := k) rfl (unhide HP3).fl hr (unhide HS2) (unhide HT2) hx).mono ?_
  rintro e w4 ⟨rfl, hf4, hk4⟩
  have HP4 := hide ((unhide HP3).next hf4 hk4)
  clear hf4 hk4
  go_wp2_with fail
  go_end0
  exact ⟨rfl, by rw [unhide HE]; exact (unhide HP4).fl, (unhide HP4).kf⟩

set_option maxHeartbeats 1000000 in
set_option maxRecDepth 100000 in
theorem dem_r (O : FOk D) (hr : InR D.n D.nv D.np st) {f i j p : Nat} (VO : VOk D) (h : Fl D w st) (hw : wfS (bt D.s) D.nv D.n D.np (f + 1) i = (j, false)) (htb : tbS (bt D.s) D.nv D.n D.np D.T (f + 1) i) (hp : p < D.n) (hc : bt D.s i = 114) :
    Calls Tryz.prog 84 #[.pointer (some ⟨D.b, 0, none⟩), .int .i64 (i : Int), .int .i64 (p : Int)] w fun e w' => e = .returned (.tuple #[]) ∧ Fl D w' (pS (bt D.s) D.R D.n (fixV (bt D.s) D.n) (f + 1) i p st) ∧ Kf D.b w w' := by
  have hi : i < D.s.size := bt_lt (by rw [hc]; omega)
  have hbq := bt_eq D.s i hi
  rw [hc] at hbq
  have hi' : (i : Int) < (D.s.size : Int) := by omega
  have hi3 : (i : Int) < 300 := by have := O.sz; omega
  have p0 := h.pt (i := i) (k := 0) (by omega) (by omega)
  have p1 := h.pt (i := i) (k := 1) (by omega) (by omega)
  have p2 := h.pt (i := i) (k := 2) (by omega) (by omega)
  simp only [Nat.add_zero] at p0
  have k2 := h.tx
  have k1 := h.bo O.A
  have hbz : D.b < w.heap.size := (Array.getElem?_eq_some_iff.1 h).1
  obtain ⟨e1, e2, _⟩ := wfS_inv_r hw hc
  obtain ⟨t0, t1⟩ := htb.2.2.2.2.1 hc
  obtain ⟨d, ed, hd⟩ := isDB_nat e1
  obtain ⟨k, ek, hk⟩ := isVar_nat e2
  have hi1 : i + 1 < D.s.size := isDB_lt e1
  have hi2 : i + 2 < D.s.size := isVar_lt e2
  have HE := hide (pS_r (c := bt D.s) (R := D.R) (n := D.n) (fx := fixV (bt D.s) D.n) (f := f) (p := p) (st := st) hc)
  rw [ed, ek] at HE
  rw [t0] at p0
  rw [t1] at p1
  have HEK := hide ek
  have r1 := (demP_low (fx := fixV (bt D.s) D.n) (a := p) (k := i) (tg := .lev d) (b := d) O.A hr rfl (fun h => h)).1
  clear hw htb t0 t1 e1 e2 ek
  go_enter Tryz.func84, Tryz.ntmps84
  go_wp2_with fail
  go_region_with (go_at_call 82; refine (pDigit_at _ _ 134 (i + 1) D.s (by omega) ((PK.start h).fl.drew).tx hi1 ed).mono ?_; rintro e w' ⟨rfl, rfl⟩)
  all_goals
    go_wp2_with fail
    refine (fDemB O (PK.start h).drew.fl hp hd).mono ?_
    rintro e w2 ⟨rfl, hf2, hk2⟩
    have hp2 := (PK.start h).drew.next hf2 hk2
    have HP2 := hide hp2
    have q1 := hp2.c1
    clear hf2 hk2 hp2 p0 p1 p2 k1 k2
    go_wp2_with fail
    refine (fJoin O.A O.n8 (unhide HP2).fl hp hd).mono ?_
    rintro e w' ⟨rfl, hw'⟩
    rw [hw']
    clear hw'
    go_wp2_with fail
    refine (fDemV O VO r1 (unhide HP2).fl (m := i + 2) (by omega) hi2 (unhide HEK) hk (O.A.lt hp hd)).mono ?_
    rintro e w3 ⟨rfl, hf3, hk3⟩
    have HP3 := hide ((unhide HP2).next hf3 hk3)
    clear hf3 hk3
    go_wp2_with fail
    go_end0
    exact ⟨rfl, by rw [unhide HE]; exact (unhide HP3).fl, (unhide HP3).kf⟩

set_option maxHeartbeats 1000000 in
set_option maxRecDepth 100000 in
theorem dem_o (O : FOk D) (hr : InR D.n D.nv D.np st) {f i j p : Nat} (HX : ∀ f st, InR D.n D.nv D.np st → ExOk D st f) (h : Fl D w st) (hw : wfS (bt D.s) D.nv D.n D.np (f + 1) i = (j, false)) (htb : tbS (bt D.s) D.nv D.n D.np D.T (f + 1) i) (hp : p < D.n) (hc : bt D.s i = 111) :
    Calls Tryz.prog 84 #[.pointer (some ⟨D.b, 0, none⟩), .int .i64 (i : Int), .int .i64 (p : Int)] w fun e w' => e = .returned (.tuple #[]) ∧ Fl D w' (pS (bt D.s) D.R D.n (fixV (bt D.s) D.n) (f + 1) i p st) ∧ Kf D.b w w' := by
  have hi : i < D.s.size := bt_lt (by rw [hc]; omega)
  have hbq := bt_eq D.s i hi
  rw [hc] at hbq
  have hi' : (i : Int) < (D.s.size : Int) := by omega
  have hi3 : (i : Int) < 300 := by have := O.sz; omega
  have p0 := h.pt (i := i) (k := 0) (by omega) (by omega)
  have p1 := h.pt (i := i) (k := 1) (by omega) (by omega)
  have p2 := h.pt (i := i) (k := 2) (by omega) (by omega)
  simp only [Nat.add_zero] at p0
  have k2 := h.tx
  have k1 := h.bo O.A
  have hbz : D.b < w.heap.size := (Array.getElem?_eq_some_iff.1 h).1
  obtain ⟨e1, e2⟩ := wfS_inv_o hw hc
  obtain ⟨t0, t1, t2⟩ := htb.2.2.2.2.2.1 hc
  have HE := hide (pS_o (c := bt D.s) (R := D.R) (n := D.n) (fx := fixV (bt D.s) D.n) (f := f) (p := p) (st := st) hc)
  obtain ⟨d, ed, hd⟩ := isDB_nat e1
  have hi1 : i + 1 < D.s.size := isDB_lt e1
  rw [ed] at HE
  obtain ⟨_, a2, _⟩ := condW_ok (c := bt D.s) O.A.L O.A.n1 hr.V hp e2
  rw [t0] at p0
  rw [t1] at p1
  have HXX := hide HX
  have HT := hide t2
  have HS := hide e2
  clear hw htb t0 t1 t2 e2 HX e1
  go_enter Tryz.func84, Tryz.ntmps84
  go_wp2_with fail
  refine (fUnder_at O hr (i := i + 2) (by omega) (unhide HXX f st hr) (PK.start h).fl (unhide HS) (unhide HT) hp).mono ?_
  rintro e w2 ⟨rfl, hb2⟩
  have hp2 := (PK.start h).below hb2
  have HP2 := hide hp2
  have q0 := hp2.c0
  clear hb2 hp2 p0 p1 p2 k1 k2
  generalize (condW (bt D.s) D.R D.n st.V f (i + 2) p).2.1 = x at *
  go_wp2_with fail
  go_region_with (first
    | (go_at_call 82; refine (pDigit_at _ _ 134 (i + 1) D.s (by omega) ((unhide HP2).fl.drew).tx hi1 ed).mono ?_; rintro e w' ⟨rfl, rfl⟩)
    | (go_at_call 104; refine (fDemB O (unhide HP2).fl.drew a2 hd).mono ?_; rintro e w3 ⟨rfl, hf3, hk3⟩; have HP3 := hide ((unhide HP2).drew.next hf3 hk3); clear hf3 hk3))
  all_goals
    go_wp2_with fail
    go_end0
    exact ⟨rfl, by rw [unhide HE]; exact (unhide HP3).fl, (unhide HP3).kf⟩

set_option maxHeartbeats 1000000 in
set_option maxRecDepth 100000 in
theorem dem_c (O : FOk D) (hr : InR D.n D.nv D.np st) {f i j p : Nat} (h : Fl D w st) (hw : wfS (bt D.s) D.nv D.n D.np (f + 1) i = (j, false)) (htb : tbS (bt D.s) D.nv D.n D.np D.T (f + 1) i) (hp : p < D.n) (hc : bt D.s i = 99) :
    Calls Tryz.prog 84 #[.pointer (some ⟨D.b, 0, none⟩), .int .i64 (i : Int), .int .i64 (p : Int)] w fun e w' => e = .returned (.tuple #[]) ∧ Fl D w' (pS (bt D.s) D.R D.n (fixV (bt D.s) D.n) (f + 1) i p st) ∧ Kf D.b w w' := by
  have hi : i < D.s.size := bt_lt (by rw [hc]; omega)
  have hbq := bt_eq D.s i hi
  rw [hc] at hbq
  have hi' : (i : Int) < (D.s.size : Int) := by omega
  have hi3 : (i : Int) < 300 := by have := O.sz; omega
  have p0 := h.pt (i := i) (k := 0) (by omega) (by omega)
  have p1 := h.pt (i := i) (k := 1) (by omega) (by omega)
  have p2 := h.pt (i := i) (k := 2) (by omega) (by omega)
  simp only [Nat.add_zero] at p0
  have k2 := h.tx
  have k1 := h.bo O.A
  have hbz : D.b < w.heap.size := (Array.getElem?_eq_some_iff.1 h).1
  obtain ⟨e1, _⟩ := wfS_inv_c hw hc
  have t0 := htb.2.2.2.2.2.2 hc
  obtain ⟨d, ed, hd⟩ := isDB_nat e1
  have hi1 : i + 1 < D.s.size := isDB_lt e1
  have HE := hide (pS_c (c := bt D.s) (R := D.R) (n := D.n) (fx := fixV (bt D.s) D.n) (f := f) (p := p) (st := st) hc)
  rw [ed] at HE
  rw [t0] at p0
  have hd4n : d < 4 := by have := O.np; omega
  have kx := h.lx (k := d) hd4n
  have hd4 : (d : Int) < 4 := by omega
  have hXd := hr.X d hd
  clear hw htb t0 e1
  go_enter Tryz.func84, Tryz.ntmps84
  go_wp2_with fail
  go_region_with (go_at_call 82; refine (pDigit_at _ _ 134 (i + 1) D.s (by omega) ((PK.start h).fl.drew).tx hi1 ed).mono ?_; rintro e w' ⟨rfl, rfl⟩)
  all_goals
    go_wp2_with fail
    go_region_with (go_at_call 86; refine (fRaise O (PK.start h).fl.drew.drew hXd hp).mono ?_; rintro e w2 ⟨rfl, hf2, hk2⟩; have HP2 := hide ((PK.start h).drew.drew.next hf2 hk2); have kx2 := hf2.lx (k := d) hd4n; have zx2 := hf2.fz (1054 + d); clear hf2 hk2)
    all_goals
      go_wp2_with fail
      go_end0
      refine ⟨rfl, ?_, (unhide HP2).kf.setCell _ _ (unhide HP2).fl⟩
      have h9 := (unhide HP2).fl.setX (x := jn D.R D.n (st.X d) p) hd4n
      rw [(raF_V (D := D) (st := st)).2.1] at h9
      rw [unhide HE, show ((d : Int)).toNat = d from rfl, raX_set]
      exact h9

theorem fDemand (O : FOk D) (VO : VOk D) (HX : ∀ f st, InR D.n D.nv D.np st → ExOk D st f) (TH : ∀ f st, InR D.n D.nv D.np st → ThOk D st f) : ∀ f, DmOk D f := by
  intro f
  induction f with
  | zero => intro w st i p j _ _ h; simp [wfS] at h
  | succ f ih =>
    intro w st i p j h hr hw htb hp
    rcases wfS_letter hw with hc | hc | hc | hc | hc | hc | hc | hc
    · rcases hc with hc | hc
      · exact dem_dot O h hw hc
      · exact dem_x O h hw hc
    · rcases hc with hc | hc
      · exact dem_seq O hr (TH f) ih h hw htb hp hc
      · exact dem_t O hr (TH f) ih h hw htb hp hc
    · exact dem_eq O hr VO HX h hw htb hp hc
    · exact dem_i O hr HX ih h hw htb hp hc
    · exact dem_w O hr HX (TH f) ih h hw htb hp hc
    · exact dem_r O hr VO h hw htb hp hc
    · exact dem_o O hr HX h hw htb hp hc
    · exact dem_c O hr h hw htb hp hc

end Go.Proofs.YtfcflnnleadpkaaGreat

namespace Go.Proofs.YtfcflnnleadpkaaGreat

/-- The program's look at all statements. -/
def pA (E : Env) (f : Nat) (st : WS) : Nat → WS
  | 0 => pS (bt E.s) E.R E.n (fxE E) f E.main (bot E.R E.n) st
  | k + 1 => raT E.R E.n (pS (bt E.s) E.R E.n (fxE E) f (E.P k).toNat ((pA E f st k).X k) (pA E f st k)) k
      (wd (bt E.s) E.R E.n (pS (bt E.s) E.R E.n (fxE E) f (E.P k).toNat ((pA E f st k).X k) (pA E f st k)).V (pS (bt E.s) E.R E.n (fxE E) f (E.P k).toNat ((pA E f st k).X k) (pA E f st k)).T f (E.P k).toNat ((pA E f st k).X k)).2.1

section
variable {E : Env} {f : Nat} {st : WS} {V X T V' X' T' : Nat → Nat}

theorem raT_low (A : Lat E.n E.R) {k t : Nat} (hk : k < E.np) (ht : t < E.n) (hr : InR E.n E.nv E.np st) :
    InR E.n E.nv E.np (raT E.R E.n st k t) ∧ RisA E st (raT E.R E.n st k t) ∧ ((raT E.R E.n st k t = st ∧ Le E.R E.n t (st.T k)) ∨ ((raT E.R E.n st k t).ra = true ∧ mH E.R E.n E.nv E.np st < mH E.R E.n E.nv E.np (raT E.R E.n st k t))) ∧
    (raT E.R E.n st k t).V = st.V ∧ (raT E.R E.n st k t).X = st.X ∧ (Bel E.R E.n E.np st.T T' → Le E.R E.n t (T' k) → Bel E.R E.n E.np (raT E.R E.n st k t).T T') := by
  unfold raT
  by_cases h : jn E.R E.n (st.T k) t = st.T k
  · rw [if_pos h]
    exact ⟨hr, ⟨Bel.refl A hr.V, Bel.refl A hr.X, Bel.refl A hr.T, fun h => h, fun _ _ => rfl⟩, Or.inl ⟨rfl, A.of_jn (hr.T k hk) ht h⟩, rfl, rfl, fun h _ => h⟩
  · rw [if_neg h]
    have hb : Bel E.R E.n E.np st.T (setF st.T k (jn E.R E.n (st.T k) t)) := Bel.set A hr.T (A.l (hr.T k hk) ht)
    refine ⟨⟨hr.V, hr.X, fun j hj => (hb j hj).2.2⟩, ⟨Bel.refl A hr.V, Bel.refl A hr.X, hb, fun _ => rfl, fun _ _ => rfl⟩, Or.inr ⟨rfl, ?_⟩, rfl, rfl, fun h1 h2 => h1.setU (A.sup (h1 k hk) h2)⟩
    have h3 := sm_lt A E.np hb hk (by unfold setF; rw [if_pos rfl]; exact fun e => h e.symm)
    unfold Go.Proofs.YtfcflnnleadpkaaGreat.mH
    simp only
    omega

theorem pA_low (A : Lat E.n E.R) (Q : Parts E f) (hr : InR E.n E.nv E.np st) : ∀ k, k ≤ E.np →
    InR E.n E.nv E.np (pA E f st k) ∧ RisA E st (pA E f st k) ∧
    ((pA E f st k = putB st (bdG E.R st.V st.X (allD E f st.V st.X st.T k) st.bad) ∧ Sat E.R E.n (fxE E) st.V st.X (allD E f st.V st.X st.T k) ∧ ∀ j, j < k → Le E.R E.n (tdP E f st.V st.X st.T j).2.1 (st.T j)) ∨
      ((pA E f st k).ra = true ∧ mH E.R E.n E.nv E.np st < mH E.R E.n E.nv E.np (pA E f st k))) ∧
    (Bel E.R E.n E.nv st.V V' → Bel E.R E.n E.np st.X X' → Bel E.R E.n E.np st.T T' → Sat E.R E.n (fxE E) V' X' (allD E f V' X' T' k) → (∀ j, j < k → Le E.R E.n (tdP E f V' X' T' j).2.1 (T' j)) →
      Bel E.R E.n E.nv (pA E f st k).V V' ∧ Bel E.R E.n E.np (pA E f st k).X X' ∧ Bel E.R E.n E.np (pA E f st k).T T') := by
  intro k
  induction k with
  | zero =>
    intro _
    obtain ⟨j, hj⟩ := Q.main
    have hb := bot_lt (R := E.R) A.n1
    obtain ⟨h1, h2, h3⟩ := pS_low (fx := fxE E) (c := bt E.s) A f E.main (bot E.R E.n) j st hj hb hr
    refine ⟨h1, h2.risA A hr, ?_, fun hV hX hT hs _ => ?_⟩
    · rcases h3 with ⟨g1, g2⟩ | g
      · exact Or.inl ⟨g1, g2, fun j hj => by omega⟩
      · exact Or.inr g
    · have h4 := pS_under (fx := fxE E) (c := bt E.s) (V' := V') (X' := X') (T' := T') A f E.main (bot E.R E.n) (bot E.R E.n) j st hj hb hr hV hX hT (A.refl hb) hs
      exact ⟨h4.1, h4.2, by show Bel E.R E.n E.np (pS _ _ _ _ _ _ _ _).T T'; rw [h2.T]; exact hT⟩
  | succ k ih =>
    intro hk
    obtain ⟨i1, i2, i3, i4⟩ := ih (by omega)
    obtain ⟨m, j, em, hj⟩ := Q.proc k (by omega)
    have em' : (E.P k).toNat = m := by omega
    obtain ⟨r, er⟩ : ∃ r, pA E f st k = r := ⟨_, rfl⟩
    have e : pA E f st (k + 1) = raT E.R E.n (pS (bt E.s) E.R E.n (fxE E) f m (r.X k) r) k (wd (bt E.s) E.R E.n (pS (bt E.s) E.R E.n (fxE E) f m (r.X k) r).V (pS (bt E.s) E.R E.n (fxE E) f m (r.X k) r).T f m (r.X k)).2.1 := by
      simp only [pA]; rw [er, em']
    rw [er] at i1 i2 i3 i4
    have hx := i1.X k (by omega)
    obtain ⟨h1, h2, h3⟩ := pS_low (fx := fxE E) (c := bt E.s) A f m (r.X k) j r hj hx i1
    have h5 := fun V' X' T' => pS_under (fx := fxE E) (c := bt E.s) (V' := V') (X' := X') (T' := T') A f m (r.X k) (X' k) j r hj hx i1
    obtain ⟨y, ey⟩ : ∃ y, pS (bt E.s) E.R E.n (fxE E) f m (r.X k) r = y := ⟨_, rfl⟩
    rw [e, ey]
    rw [ey] at h1 h2 h3
    simp only [ey] at h5
    have ht := (wd_ok (c := bt E.s) A.L A.n1 h1.V h1.T f m (r.X k) j hj hx).2.1
    obtain ⟨t1, t2, t3, t4, t5, t6⟩ := raT_low (T' := T') A (by omega : k < E.np) ht h1
    refine ⟨t1, (i2.trans A (h2.risA A i1)).trans A t2, ?_, fun hV hX hT hs hth => ?_⟩
    · have hm := (h2.risA A i1).mH A
      have hm2 := t2.mH A
      rcases i3 with ⟨g1, g2, g3⟩ | ⟨g1, g2⟩
      · rcases h3 with ⟨f1, f3⟩ | ⟨f1, f2⟩
        · rcases t3 with ⟨s1, s2⟩ | ⟨s1, s2⟩
          · have ed : (tdP E f st.V st.X st.T k).2.2 = (wd (bt E.s) E.R E.n r.V r.T f m (r.X k)).2.2 := by unfold tdP; rw [em', g1]; rfl
            refine Or.inl ⟨?_, ?_, fun l hl2 => ?_⟩
            · rw [s1, f1]
              simp only [allD]
              rw [bdG_append, ed, g1]
              rfl
            · refine g2.app ?_
              rw [ed]
              rw [g1] at f3 ⊢
              exact f3
            · by_cases el : l = k
              · subst el
                unfold tdP
                rw [em']
                rw [f1, g1] at s2
                exact s2
              · exact g3 l (by omega)
          · refine Or.inr ⟨s1, ?_⟩
            have e3 : mH E.R E.n E.nv E.np y = mH E.R E.n E.nv E.np st := by rw [f1, g1]; rfl
            rw [e3] at s2
            exact s2
        · refine Or.inr ⟨t2.ra f1, ?_⟩
          have e3 : mH E.R E.n E.nv E.np r = mH E.R E.n E.nv E.np st := by rw [g1]; rfl
          rw [e3] at f2
          exact Nat.lt_of_lt_of_le f2 hm2
      · exact Or.inr ⟨t2.ra (h2.ra g1), by omega⟩
    · obtain ⟨p1, p2, p3⟩ := i4 hV hX hT hs.fst (fun l hl2 => hth l (by omega))
      have hs2 : Sat E.R E.n (fxE E) V' X' (wd (bt E.s) E.R E.n V' T' f m (X' k)).2.2 := by
        have := hs.snd
        unfold tdP at this
        rw [em'] at this
        exact this
      obtain ⟨q1, q2⟩ := h5 V' X' T' p1 p2 p3 (p2 k (by omega)) hs2
      have hT1 : Bel E.R E.n E.np y.T T' := by rw [h2.T]; exact p3
      have hm := (wd_mono (c := bt E.s) A q1 hT1 f m (r.X k) (X' k) j hj (p2 k (by omega))).2.2.1
      refine ⟨by rw [t4]; exact q1, by rw [t5]; exact q2, t6 hT1 (A.trans hm ?_)⟩
      have := hth k (by omega)
      unfold tdP at this
      rw [em'] at this
      exact this

/-- Between two looks. -/
structure LInv (E : Env) (f : Nat) (st : WS) : Prop where
  inr : InR E.n E.nv E.np st
  fx : Fixd E st.V
  und : ∀ V' X' T', (∀ k, k < E.nv → V' k < E.n) → (∀ k, k < E.np → X' k < E.n) → (∀ k, k < E.np → T' k < E.n) → Fixd E V' → SoftW E f V' X' T' →
    Bel E.R E.n E.nv st.V V' ∧ Bel E.R E.n E.np st.X X' ∧ Bel E.R E.n E.np st.T T'
  fin : st.ra = false → SoftW E f st.V st.X st.T ∧ st.bad = bdG E.R st.V st.X (allD E f st.V st.X st.T E.np) (-1)
def pStep (E : Env) (f : Nat) (st : WS) : WS := pA E f (rsW st) E.np
theorem LInv.step (A : Lat E.n E.R) (Q : Parts E f) (h : LInv E f st) : LInv E f (pStep E f st) ∧ ((pStep E f st).ra = false ∨ mH E.R E.n E.nv E.np st < mH E.R E.n E.nv E.np (pStep E f st)) := by
  have hr0 : InR E.n E.nv E.np (rsW st) := ⟨h.inr.V, h.inr.X, h.inr.T⟩
  have key := fun V' X' T' => pA_low (V' := V') (X' := X') (T' := T') A Q hr0 E.np (Nat.le_refl _)
  obtain ⟨h1, h2, h3, _⟩ := key st.V st.X st.T
  refine ⟨⟨h1, fun k hk hf => ?_, fun V' X' T' hV hX hT hF hS => ?_, fun hra => ?_⟩, ?_⟩
  · have := h2.fx k hf
    show ((pA E f (rsW st) E.np).V k : Int) = _
    rw [this]
    exact h.fx k hk hf
  · obtain ⟨b1, b2, b3⟩ := h.und V' X' T' hV hX hT hF hS
    exact (key V' X' T').2.2.2 b1 b2 b3 hS.dem hS.thr
  · rcases h3 with ⟨g1, g2, g3⟩ | ⟨g1, _⟩
    · have eV : (pStep E f st).V = st.V := by unfold pStep; rw [g1]; rfl
      have eX : (pStep E f st).X = st.X := by unfold pStep; rw [g1]; rfl
      have eT : (pStep E f st).T = st.T := by unfold pStep; rw [g1]; rfl
      rw [eV, eX, eT]
      refine ⟨⟨g2, g3⟩, ?_⟩
      unfold pStep; rw [g1]; rfl
    · have h9 : (pA E f (rsW st) E.np).ra = false := hra
      rw [h9] at g1; cases g1
  · rcases h3 with ⟨g1, _, _⟩ | ⟨_, g2⟩
    · exact Or.inl (by unfold pStep; rw [g1]; rfl)
    · exact Or.inr g2
theorem LInv.low (h : LInv E f st) (hra : st.ra = false) : LowOk E f st.V st.X st.T := ⟨h.inr.V, h.inr.X, h.inr.T, h.fx, (h.fin hra).1, h.und⟩

theorem labE_end (c : Nat → Int) (R : Nat → Nat → Bool) (n : Nat) {nv : Nat} (V : Nat → Nat) : ∀ f i j, scE c nv f i = (j, false) → (labE c R n V f i).1 = j := by
  intro f
  induction f with
  | zero => intro i j h; simp [scE] at h
  | succ f ih =>
    intro i j hs
    cases ho : isOp (c i)
    · obtain ⟨rfl, h2 | ⟨h2, h3⟩⟩ := scE_inv_leaf hs ho
      · rw [labE_dig ho h2]
      · rw [labE_var ho h2]
    · obtain ⟨k, e1, e2⟩ := scE_inv_op hs ho
      rw [labE_op ho, ih _ _ e1, ih _ _ e2]
/-- The same labels where they count: the same table. -/
theorem labE_congP {c : Nat → Int} {R : Nat → Nat → Bool} {n nv : Nat} (h : ∀ k, k < nv → V k = V' k) : ∀ f i j, scE c nv f i = (j, false) → labE c R n V f i = labE c R n V' f i := by
  intro f
  induction f with
  | zero => intro i j h; simp [scE] at h
  | succ f ih =>
    intro i j hs
    cases ho : isOp (c i)
    · obtain ⟨rfl, h2 | ⟨h2, h3⟩⟩ := scE_inv_leaf hs ho
      · rw [labE_dig ho h2, labE_dig ho h2]
      · rw [labE_var ho h2, labE_var ho h2]
        obtain ⟨k, e, hk⟩ := isVar_nat h3
        rw [e, show ((k : Int)).toNat = k from rfl, h k hk]
    · obtain ⟨k, e1, e2⟩ := scE_inv_op hs ho
      rw [labE_op ho, labE_op ho, ← ih _ _ e1]
      by_cases hk : (labE c R n V f (i + 1)).1 = k
      · rw [hk, ← ih _ _ e2]
      · exact absurd (labE_end c R n V f _ _ e1) hk
theorem wd_congP {c : Nat → Int} {R : Nat → Nat → Bool} {n nv np : Nat} (A : Lat n R) (hV0 : ∀ k, k < nv → V k < n) (hT0 : ∀ k, k < np → T k < n) (hV : ∀ k, k < nv → V k = V' k) (hT : ∀ k, k < np → T k = T' k) :
    ∀ (f i p j : Nat), wfS c nv n np f i = (j, false) → p < n → wd c R n V T f i p = wd c R n V' T' f i p := by
  have hE : ∀ f i j p, scE c nv f i = (j, false) → condW c R n V f i p = condW c R n V' f i p := by
    intro f i j p h; unfold condW; rw [labE_congP hV f i j h]
  intro f
  induction f with
  | zero => intro i p j h; simp [wfS] at h
  | succ f ih =>
    intro i p j h hp
    rcases wfS_letter h with hc | hc | hc | hc | hc | hc | hc | hc
    · rcases hc with hc | hc
      · rw [wd_dot hc, wd_dot hc]
      · rw [wd_x hc, wd_x hc]
    · obtain ⟨k, e1, e2⟩ := wfS_inv_seq h hc
      obtain ⟨w1, w2, _⟩ := wd_ok (c := c) A.L A.n1 hV0 hT0 f (i + 1) p k e1 hp
      rw [wd_seq hc, wd_seq hc]
      simp only
      rw [← ih (i + 1) p k e1 hp, w1, ← ih k _ j e2 (A.lt hp w2)]
    · obtain ⟨e1, e2⟩ := wfS_inv_eq h hc
      rw [wd_eq hc, wd_eq hc, hE _ _ _ _ e2]
    · obtain ⟨k, m, e1, e2, e3⟩ := wfS_inv_i h hc
      obtain ⟨a1, a2, a3⟩ := condW_ok (c := c) A.L A.n1 hV0 hp e1
      rw [wd_i hc, wd_i hc]
      simp only
      rw [← hE _ _ _ _ e1, a1, ← ih k _ m e2 a2, (wd_ok (c := c) A.L A.n1 hV0 hT0 f k _ m e2 a2).1, ← ih m _ j e3 a2]
    · obtain ⟨k, e1, e2⟩ := wfS_inv_w h hc
      obtain ⟨a1, a2, a3⟩ := condW_ok (c := c) A.L A.n1 hV0 hp e1
      rw [wd_w hc, wd_w hc]
      simp only
      have hrr := A.lt a2 a3
      have hd := (wd_ok (c := c) A.L A.n1 hV0 hT0 f k _ j e2 hrr).2.1
      rw [← hE _ _ _ _ e1, a1, ← ih k _ j e2 hrr, ← ih k _ j e2 (A.lt hrr hd)]
    · obtain ⟨e1, e2, rfl⟩ := wfS_inv_r h hc
      rw [wd_r hc, wd_r hc]
    · obtain ⟨e1, e2⟩ := wfS_inv_o h hc
      rw [wd_o hc, wd_o hc, hE _ _ _ _ e2]
    · obtain ⟨e1, rfl⟩ := wfS_inv_c h hc
      obtain ⟨d, ed, hd⟩ := isDB_nat e1
      rw [wd_c hc, wd_c hc, ed, show ((d : Int)).toNat = d from rfl, hT d hd]
theorem allD_cong (A : Lat E.n E.R) (Q : Parts E f) (hV0 : ∀ k, k < E.nv → V k < E.n) (hX0 : ∀ k, k < E.np → X k < E.n) (hT0 : ∀ k, k < E.np → T k < E.n)
    (hV : ∀ k, k < E.nv → V k = V' k) (hX : ∀ k, k < E.np → X k = X' k) (hT : ∀ k, k < E.np → T k = T' k) : ∀ k, k ≤ E.np → allD E f V X T k = allD E f V' X' T' k := by
  intro k
  induction k with
  | zero =>
    intro _
    obtain ⟨j, hj⟩ := Q.main
    simp only [allD]
    unfold tdM
    rw [wd_congP A hV0 hT0 hV hT f E.main _ j hj (bot_lt A.n1)]
  | succ k ih =>
    intro hk
    obtain ⟨m, j, em, hj⟩ := Q.proc k (by omega)
    have em' : (E.P k).toNat = m := by omega
    simp only [allD]
    rw [ih (by omega)]
    unfold tdP
    rw [em', ← hX k (by omega), wd_congP A hV0 hT0 hV hT f m _ j hj (hX0 k (by omega))]
theorem bdG_cong (hV : ∀ k, k < E.nv → V k = V' k) (hX : ∀ k, k < E.np → X k = X' k) : ∀ (ds : List Dm) (b : Int), (∀ d ∈ ds, TgOk E.n E.nv E.np d.tg) → bdG E.R V X ds b = bdG E.R V' X' ds b := by
  intro ds
  induction ds with
  | nil => intro b _; rfl
  | cons d ds ih =>
    intro b h
    have ht : tgv V X d.tg = tgv V' X' d.tg := by
      have h1 := h d (List.mem_cons.2 (Or.inl rfl))
      cases e : d.tg with
      | lev x => rfl
      | var v => rw [e] at h1; exact hV v h1
      | ctx k => rw [e] at h1; exact hX k h1
    simp only [bdG]
    unfold bg1
    rw [ht]
    exact ih _ (fun x hx => h x (List.mem_cons.2 (Or.inr hx)))

/-- Demands in the order of their places. -/
def Srt (ds : List Dm) : Prop := ds.Pairwise (fun a b => a.pl ≤ b.pl)
theorem bd_of_pos {R : Nat → Nat → Bool} : ∀ (ds : List Dm) (b : Int), 0 ≤ b → bdG R V X ds b = b := by
  intro ds
  induction ds with
  | nil => intro b _; rfl
  | cons d ds ih =>
    intro b hb
    simp only [bdG]
    unfold bg1
    rw [if_neg (by omega)]
    exact ih b hb
theorem bdF_above {R : Nat → Nat → Bool} : ∀ (ds : List Dm) (b : Int), 0 ≤ b → (∀ d ∈ ds, b ≤ (d.pl : Int)) → bdF R V X ds b = b := by
  intro ds
  induction ds with
  | nil => intro b _ _; rfl
  | cons d ds ih =>
    intro b hb h
    have h1 := h d (List.mem_cons.2 (Or.inl rfl))
    simp only [bdF]
    unfold bd1
    rw [if_neg (by omega)]
    exact ih b hb (fun x hx => h x (List.mem_cons.2 (Or.inr hx)))
theorem bdG_bdF {R : Nat → Nat → Bool} : ∀ (ds : List Dm), Srt ds → bdG R V X ds (-1) = bdF R V X ds (-1) := by
  intro ds
  induction ds with
  | nil => intro _; rfl
  | cons d ds ih =>
    intro h
    obtain ⟨h1, h2⟩ := List.pairwise_cons.1 h
    simp only [bdG, bdF]
    cases e : R d.a (tgv V X d.tg)
    · have e1 : bg1 R V X d (-1) = (d.pl : Int) := by unfold bg1; rw [if_pos ⟨by omega, e⟩]
      have e2 : bd1 R V X d (-1) = (d.pl : Int) := by unfold bd1; rw [if_pos ⟨e, Or.inl (by omega)⟩]
      rw [e1, e2, bd_of_pos _ _ (by omega), bdF_above _ _ (by omega) (fun x hx => by have := h1 x hx; omega)]
    · have e1 : bg1 R V X d (-1) = -1 := by unfold bg1; rw [if_neg (by rw [e]; simp)]
      have e2 : bd1 R V X d (-1) = -1 := by unfold bd1; rw [if_neg (by rw [e]; simp)]
      rw [e1, e2, ih h2]
theorem Srt.app {a b : List Dm} {m : Nat} (ha : Srt a) (hb : Srt b) (h1 : ∀ d ∈ a, d.pl < m) (h2 : ∀ d ∈ b, m ≤ d.pl) : Srt (a ++ b) :=
  List.pairwise_append.2 ⟨ha, hb, fun x hx y hy => by have := h1 x hx; have := h2 y hy; omega⟩
theorem scE_lt2 {c : Nat → Int} {nv : Nat} : ∀ f i j, scE c nv f i = (j, false) → i < j := by
  intro f
  induction f with
  | zero => intro i j h; simp [scE] at h
  | succ f ih =>
    intro i j hs
    cases ho : isOp (c i)
    · obtain ⟨rfl, _⟩ := scE_inv_leaf hs ho; omega
    · obtain ⟨k, e1, e2⟩ := scE_inv_op hs ho
      have := ih _ _ e1; have := ih _ _ e2; omega
theorem wfS_lt2 {c : Nat → Int} {nv n np : Nat} : ∀ f i j, wfS c nv n np f i = (j, false) → i < j := by
  intro f
  induction f with
  | zero => intro i j h; simp [wfS] at h
  | succ f ih =>
    intro i j h
    rcases wfS_letter h with hc | hc | hc | hc | hc | hc | hc | hc
    · have := wfS_inv_plain h hc; omega
    · obtain ⟨k, e1, e2⟩ := wfS_inv_seq h hc
      have := ih _ _ e1; have := ih _ _ e2; omega
    · obtain ⟨e1, e2⟩ := wfS_inv_eq h hc
      have := scE_lt2 _ _ _ e2; omega
    · obtain ⟨k, m, e1, e2, e3⟩ := wfS_inv_i h hc
      have := scE_lt2 _ _ _ e1; have := ih _ _ e2; have := ih _ _ e3; omega
    · obtain ⟨k, e1, e2⟩ := wfS_inv_w h hc
      have := scE_lt2 _ _ _ e1; have := ih _ _ e2; omega
    · obtain ⟨e1, e2, rfl⟩ := wfS_inv_r h hc; omega
    · obtain ⟨e1, e2⟩ := wfS_inv_o h hc
      have := scE_lt2 _ _ _ e2; omega
    · obtain ⟨e1, rfl⟩ := wfS_inv_c h hc; omega
theorem wd_srt {c : Nat → Int} {R : Nat → Nat → Bool} {n nv np : Nat} (A : Lat n R) (hV0 : ∀ k, k < nv → V k < n) (hT0 : ∀ k, k < np → T k < n) :
    ∀ (f i p j : Nat), wfS c nv n np f i = (j, false) → p < n → Srt (wd c R n V T f i p).2.2 ∧ ∀ d ∈ (wd c R n V T f i p).2.2, i ≤ d.pl ∧ d.pl < j := by
  intro f
  induction f with
  | zero => intro i p j h; simp [wfS] at h
  | succ f ih =>
    intro i p j h hp
    have hij := wfS_lt2 _ _ _ h
    rcases wfS_letter h with hc | hc | hc | hc | hc | hc | hc | hc
    · rcases hc with hc | hc
      · rw [wd_dot hc]; exact ⟨List.Pairwise.nil, fun d hd => by simp at hd⟩
      · rw [wd_x hc]; exact ⟨List.Pairwise.nil, fun d hd => by simp at hd⟩
    · obtain ⟨k, e1, e2⟩ := wfS_inv_seq h hc
      obtain ⟨w1, w2, _⟩ := wd_ok (c := c) A.L A.n1 hV0 hT0 f (i + 1) p k e1 hp
      rw [wd_seq hc]
      simp only
      rw [w1]
      obtain ⟨a1, a2⟩ := ih (i + 1) p k e1 hp
      obtain ⟨b1, b2⟩ := ih k _ j e2 (A.lt hp w2)
      have l1 := wfS_lt2 _ _ _ e1
      have l2 := wfS_lt2 _ _ _ e2
      refine ⟨a1.app b1 (m := k) (fun d hd => (a2 d hd).2) (fun d hd => (b2 d hd).1), fun d hd => ?_⟩
      rcases List.mem_append.1 hd with hd | hd
      · have := a2 d hd; omega
      · have := b2 d hd; omega
    · rw [wd_eq hc]
      exact ⟨List.pairwise_singleton _ _, fun d hd => by rw [List.mem_singleton.1 hd]; exact ⟨Nat.le_refl _, hij⟩⟩
    · obtain ⟨k, m, e1, e2, e3⟩ := wfS_inv_i h hc
      obtain ⟨a1, a2, a3⟩ := condW_ok (c := c) A.L A.n1 hV0 hp e1
      rw [wd_i hc]
      simp only
      rw [a1, (wd_ok (c := c) A.L A.n1 hV0 hT0 f k _ m e2 a2).1]
      obtain ⟨b1, b2⟩ := ih k _ m e2 a2
      obtain ⟨d1, d2⟩ := ih m _ j e3 a2
      have l0 := scE_lt2 _ _ _ e1
      have l1 := wfS_lt2 _ _ _ e2
      have l2 := wfS_lt2 _ _ _ e3
      refine ⟨b1.app d1 (m := m) (fun d hd => (b2 d hd).2) (fun d hd => (d2 d hd).1), fun d hd => ?_⟩
      rcases List.mem_append.1 hd with hd | hd
      · have := b2 d hd; omega
      · have := d2 d hd; omega
    · obtain ⟨k, e1, e2⟩ := wfS_inv_w h hc
      obtain ⟨a1, a2, a3⟩ := condW_ok (c := c) A.L A.n1 hV0 hp e1
      rw [wd_w hc]
      simp only
      have hrr := A.lt a2 a3
      rw [a1]
      have hd := (wd_ok (c := c) A.L A.n1 hV0 hT0 f k _ j e2 hrr).2.1
      obtain ⟨b1, b2⟩ := ih k _ j e2 (A.lt hrr hd)
      have l0 := scE_lt2 _ _ _ e1
      exact ⟨b1, fun d hd => by have := b2 d hd; omega⟩
    · rw [wd_r hc]
      refine ⟨List.pairwise_cons.2 ⟨fun d hd => by rw [List.mem_singleton.1 hd]; exact Nat.le_refl _, List.pairwise_singleton _ _⟩, fun d hd => ?_⟩
      rcases List.mem_cons.1 hd with hd | hd
      · rw [hd]; exact ⟨Nat.le_refl _, hij⟩
      · rw [List.mem_singleton.1 hd]; exact ⟨Nat.le_refl _, hij⟩
    · rw [wd_o hc]
      exact ⟨List.pairwise_singleton _ _, fun d hd => by rw [List.mem_singleton.1 hd]; exact ⟨Nat.le_refl _, hij⟩⟩
    · rw [wd_c hc]
      exact ⟨List.pairwise_singleton _ _, fun d hd => by rw [List.mem_singleton.1 hd]; exact ⟨Nat.le_refl _, hij⟩⟩
/-- The parts stand one behind the other. -/
def InOrd (E : Env) (f : Nat) : Prop := ∀ k, k < E.np → ∀ j, (k = 0 → wf0 E f E.main = (j, false) → j ≤ (E.P 0).toNat) ∧ (0 < k → wf0 E f (E.P (k - 1)).toNat = (j, false) → j ≤ (E.P k).toNat)
theorem allD_srt (A : Lat E.n E.R) (Q : Parts E f) (I : InOrd E f) (hV0 : ∀ k, k < E.nv → V k < E.n) (hX0 : ∀ k, k < E.np → X k < E.n) (hT0 : ∀ k, k < E.np → T k < E.n) :
    ∀ k, k ≤ E.np → Srt (allD E f V X T k) ∧ ∀ d ∈ allD E f V X T k, ∀ j, (k = 0 → wf0 E f E.main = (j, false) → d.pl < j) ∧ (0 < k → wf0 E f (E.P (k - 1)).toNat = (j, false) → d.pl < j) := by
  intro k
  induction k with
  | zero =>
    intro _
    obtain ⟨j, hj⟩ := Q.main
    obtain ⟨a1, a2⟩ := wd_srt (c := bt E.s) A hV0 hT0 f E.main _ j hj (bot_lt A.n1)
    refine ⟨a1, fun d hd j' => ⟨fun _ h => ?_, fun h => by omega⟩⟩
    rw [hj] at h
    have e : j = j' := congrArg Prod.fst h
    rw [← e]; exact (a2 d hd).2
  | succ k ih =>
    intro hk
    obtain ⟨i1, i2⟩ := ih (by omega)
    obtain ⟨m, j, em, hj⟩ := Q.proc k (by omega)
    have em' : (E.P k).toNat = m := by omega
    obtain ⟨b1, b2⟩ := wd_srt (c := bt E.s) A hV0 hT0 f m (X k) j hj (hX0 k (by omega))
    have hlow : ∀ d ∈ allD E f V X T k, d.pl < m := by
      intro d hd
      rcases Nat.eq_zero_or_pos k with e | e
      · obtain ⟨j0, hj0⟩ := Q.main
        have h1 := (i2 d hd j0).1 e hj0
        have h2 := (I k (by omega) j0).1 e hj0
        subst e
        omega
      · obtain ⟨m0, j0, em0, hj0⟩ := Q.proc (k - 1) (by omega)
        have em0' : (E.P (k - 1)).toNat = m0 := by omega
        have h1 := (i2 d hd j0).2 e (by rw [em0']; exact hj0)
        have h2 := (I k (by omega) j0).2 e (by rw [em0']; exact hj0)
        omega
    simp only [allD]
    unfold tdP
    rw [em']
    refine ⟨i1.app b1 (m := m) hlow (fun d hd => (b2 d hd).1), fun d hd j' => ⟨fun h => by omega, fun _ h => ?_⟩⟩
    rw [show k + 1 - 1 = k from rfl, em', hj] at h
    have e : j = j' := congrArg Prod.fst h
    have hmj := wfS_lt2 _ _ _ hj
    rcases List.mem_append.1 hd with hd | hd
    · have := hlow d hd; omega
    · have := b2 d hd; omega

/-- Where the program's looks end, they have the document's labels and its first bad place. -/
theorem LInv.same (A : Lat E.n E.R) (Q : Parts E f) (I : InOrd E f) (h : LInv E f st) (hra : st.ra = false) (hl : LowOk E f V X T) :
    (∀ k, k < E.nv → st.V k = V k) ∧ (∀ k, k < E.np → st.X k = X k) ∧ (∀ k, k < E.np → st.T k = T k) ∧ st.bad = bdF E.R V X (allD E f V X T E.np) (-1) := by
  obtain ⟨u1, u2, u3⟩ := (h.low hra).uniq A hl
  refine ⟨u1, u2, u3, ?_⟩
  rw [(h.fin hra).2, allD_cong A Q h.inr.V h.inr.X h.inr.T u1 u2 u3 E.np (Nat.le_refl _)]
  have ht := allD_in A Q hl.iv hl.ix hl.it E.np (Nat.le_refl _)
  rw [bdG_cong u1 u2 _ _ (fun d hd => (ht d hd).2)]
  exact bdG_bdF _ (allD_srt A Q I hl.iv hl.ix hl.it E.np (Nat.le_refl _)).1
end

end Go.Proofs.YtfcflnnleadpkaaGreat
