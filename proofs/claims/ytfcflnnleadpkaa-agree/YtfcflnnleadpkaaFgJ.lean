import Derived.Test.YtfcflnnleadpkaaFfJ
namespace Go.Proofs.Ytfcflnnleadpkaa
open Go.RowKit
variable {D : FD} {w : World} {st : WS}

set_option maxHeartbeats 1000000 in
set_option maxRecDepth 100000 in
theorem throw_i (O : FOk D) (hr : InR D.n D.nv D.np st) {f i j p : Nat} (HX : ∀ f, ExOk D st f) (TH : ThOk D st f) (h : Fl D w st) (hw : wfS (bt D.s) D.nv D.n D.np (f + 1) i = (j, false)) (htb : tbS (bt D.s) D.nv D.n D.np D.T (f + 1) i) (hp : p < D.n) (hc : bt D.s i = 105) :
    Calls Try.prog 103 #[.pointer (some ⟨D.b, 0, none⟩), .int .i64 (i : Int), .int .i64 (p : Int)] w fun e w' => e = .returned (.int .i64 ((wd (bt D.s) D.R D.n st.V st.T (f + 1) i p).2.1 : Nat)) ∧ Below w.heap.size w w' := by
  have hi : i < D.s.size := bt_lt (by rw [hc]; omega)
  have hbq := bt_eq D.s i hi
  rw [hc] at hbq
  have hi' : (i : Int) < (D.s.size : Int) := by omega
  have hi3 : (i : Int) < 300 := by have := O.sz; omega
  have p0 := h.pt (i := i) (k := 0) (by omega) (by omega)
  have p1 := h.pt (i := i) (k := 1) (by omega) (by omega)
  have p2 := h.pt (i := i) (k := 2) (by omega) (by omega)
  simp only [Nat.add_zero] at p0
  have k2 := h.tx
  have k1 := h.bo O.A
  have hbz : D.b < w.heap.size := (Array.getElem?_eq_some_iff.1 h).1
  obtain ⟨k, m, e1, e2, e3⟩ := wfS_inv_i hw hc
  obtain ⟨t0, t1, t2, tb1, tb2, tb3⟩ := htb.2.2.1 hc
  rw [e1] at t1 t2 tb2 tb3
  rw [e2] at t2 tb3
  obtain ⟨c1, a2, a3⟩ := condW_ok (c := bt D.s) O.A.L O.A.n1 hr.V hp e1
  obtain ⟨w1, b2, _⟩ := wd_ok (c := bt D.s) O.A.L O.A.n1 hr.V hr.T f k _ m e2 a2
  obtain ⟨_, d2, _⟩ := wd_ok (c := bt D.s) O.A.L O.A.n1 hr.V hr.T f m _ j e3 a2
  have HE := hide (congrArg (fun x => x.2.1) (wd_i (R := D.R) (n := D.n) (V := st.V) (T := st.T) (f := f) (p := p) hc))
  simp only at HE
  rw [c1, w1, O.A.comm a3 (O.A.lt b2 d2)] at HE
  rw [t0] at p0
  rw [t1] at p1
  rw [t2] at p2
  have HXX := hide HX
  have HTH := hide TH
  have HT1 := hide tb1
  have HT2 := hide tb2
  have HT3 := hide tb3
  have HS1 := hide e1
  have HS2 := hide e2
  have HS3 := hide e3
  clear hw htb t0 t1 t2 tb1 tb2 tb3 e1 e2 e3 TH HX w1 c1
  go_enter Try.func103, Try.ntmps103
  go_wp2_with fail
  refine (fUnder_at O hr (i := i + 1) (by omega) (unhide HXX f) (PB.start h).fl (unhide HS1) (unhide HT1) hp).mono ?_
  rintro e w2 ⟨rfl, hb2⟩
  have hp2 := (PB.start h).next hb2
  have HP2 := hide hp2
  have q1 := hp2.c1
  clear hb2 hp2 p0 p1 p2 k1 k2
  have HCD := hide (show (condW (bt D.s) D.R D.n st.V f (i + 1) p).2.2 = (condW (bt D.s) D.R D.n st.V f (i + 1) p).2.2 from rfl)
  generalize hx0 : (condW (bt D.s) D.R D.n st.V f (i + 1) p).2.1 = x at *
  clear hx0
  go_wp2_with fail
  refine ((unhide HTH).at (i := k) rfl (unhide HP2).fl (unhide HS2) (unhide HT2) a2).mono ?_
  rintro e w3 ⟨rfl, hb3⟩
  have hp3 := (unhide HP2).next hb3
  have HP3 := hide hp3
  have q2 := hp3.c2
  clear hb3 hp3 q1
  generalize (wd (bt D.s) D.R D.n st.V st.T f k x).2.1 = y at *
  go_wp2_with fail
  refine ((unhide HTH).at (i := m) rfl (unhide HP3).fl (unhide HS3) (unhide HT3) a2).mono ?_
  rintro e w4 ⟨rfl, hb4⟩
  have hp4 := (unhide HP3).next hb4
  have HP4 := hide hp4
  have q0 := hp4.c0
  clear hb4 hp4 q2
  generalize (wd (bt D.s) D.R D.n st.V st.T f m x).2.1 = z at *
  go_wp2_with fail
  refine (fJoin O.A O.n8 (unhide HP4).fl b2 d2).mono ?_
  rintro e w' ⟨rfl, rfl⟩
  go_wp2_with fail
  go_region_with (first
    | (go_at_call 117; refine (fDiv_at O hr (i := i + 1) (by omega) (unhide HXX f) (unhide HP4).fl.drew (unhide HS1) (unhide HT1) hp).mono ?_; rintro e w5 ⟨rfl, hb5⟩; have HP5 := hide ((unhide HP4).drew.next hb5); clear hb5)
    | (go_at_call 37; refine (fJoin O.A O.n8 (unhide HP5).fl (O.A.lt b2 d2) a3).mono ?_; rintro e w' ⟨rfl, rfl⟩))
  all_goals
    go_wp2_with fail
    go_ret
    exact ⟨by rw [unhide HE]; rfl, (unhide HP5).bel⟩

set_option maxHeartbeats 1000000 in
set_option maxRecDepth 100000 in
theorem throw_w (O : FOk D) (hr : InR D.n D.nv D.np st) {f i j p : Nat} (HX : ∀ f, ExOk D st f) (TH : ThOk D st f) (h : Fl D w st) (hw : wfS (bt D.s) D.nv D.n D.np (f + 1) i = (j, false)) (htb : tbS (bt D.s) D.nv D.n D.np D.T (f + 1) i) (hp : p < D.n) (hc : bt D.s i = 119) :
    Calls Try.prog 103 #[.pointer (some ⟨D.b, 0, none⟩), .int .i64 (i : Int), .int .i64 (p : Int)] w fun e w' => e = .returned (.int .i64 ((wd (bt D.s) D.R D.n st.V st.T (f + 1) i p).2.1 : Nat)) ∧ Below w.heap.size w w' := by
  have hi : i < D.s.size := bt_lt (by rw [hc]; omega)
  have hbq := bt_eq D.s i hi
  rw [hc] at hbq
  have hi' : (i : Int) < (D.s.size : Int) := by omega
  have hi3 : (i : Int) < 300 := by have := O.sz; omega
  have p0 := h.pt (i := i) (k := 0) (by omega) (by omega)
  have p1 := h.pt (i := i) (k := 1) (by omega) (by omega)
  have p2 := h.pt (i := i) (k := 2) (by omega) (by omega)
  simp only [Nat.add_zero] at p0
  have k2 := h.tx
  have k1 := h.bo O.A
  have hbz : D.b < w.heap.size := (Array.getElem?_eq_some_iff.1 h).1
  obtain ⟨k, e1, e2⟩ := wfS_inv_w hw hc
  obtain ⟨t0, t1, tb1, tb2⟩ := htb.2.2.2.1 hc
  rw [e1] at t1 tb2
  obtain ⟨c1, a2, a3⟩ := condW_ok (c := bt D.s) O.A.L O.A.n1 hr.V hp e1
  have hrr := O.A.lt a2 a3
  obtain ⟨w1, b2, _⟩ := wd_ok (c := bt D.s) O.A.L O.A.n1 hr.V hr.T f k _ j e2 hrr
  have HE := hide (congrArg (fun x => x.2.1) (wd_w (R := D.R) (n := D.n) (V := st.V) (T := st.T) (f := f) (p := p) hc))
  simp only at HE
  rw [c1, O.A.comm a3 b2] at HE
  rw [t0] at p0
  rw [t1] at p1
  have HXX := hide HX
  have HTH := hide TH
  have HT1 := hide tb1
  have HT2 := hide tb2
  have HS1 := hide e1
  have HS2 := hide e2
  clear hw htb t0 t1 tb1 tb2 e1 e2 TH HX w1 c1
  go_enter Try.func103, Try.ntmps103
  go_wp2_with fail
  refine (fInside_at O hr (i := i + 1) (by omega) (unhide HXX f) (PB.start h).fl (unhide HS1) (unhide HT1) hp).mono ?_
  rintro e w2 ⟨rfl, hb2⟩
  have hp2 := (PB.start h).next hb2
  have HP2 := hide hp2
  have q1 := hp2.c1
  clear hb2 hp2 p0 p1 p2 k1 k2
  generalize jn D.R D.n (condW (bt D.s) D.R D.n st.V f (i + 1) p).2.1 (condW (bt D.s) D.R D.n st.V f (i + 1) p).2.2 = x at *
  go_wp2_with fail
  refine ((unhide HTH).at (i := k) rfl (unhide HP2).fl (unhide HS2) (unhide HT2) hrr).mono ?_
  rintro e w3 ⟨rfl, hb3⟩
  have hp3 := (unhide HP2).next hb3
  have HP3 := hide hp3
  have q0 := hp3.c0
  clear hb3 hp3 q1
  generalize (wd (bt D.s) D.R D.n st.V st.T f k x).2.1 = y at *
  go_wp2_with fail
  go_region_with (first
    | (go_at_call 117; refine (fDiv_at O hr (i := i + 1) (by omega) (unhide HXX f) (unhide HP3).fl.drew (unhide HS1) (unhide HT1) hp).mono ?_; rintro e w5 ⟨rfl, hb5⟩; have HP5 := hide ((unhide HP3).drew.next hb5); clear hb5)
    | (go_at_call 37; refine (fJoin O.A O.n8 (unhide HP5).fl b2 a3).mono ?_; rintro e w' ⟨rfl, rfl⟩))
  all_goals
    go_wp2_with fail
    go_ret
    exact ⟨by rw [unhide HE]; rfl, (unhide HP5).bel⟩

set_option maxHeartbeats 1000000 in
set_option maxRecDepth 100000 in
theorem throw_r (O : FOk D) {f i j p : Nat} (h : Fl D w st) (hw : wfS (bt D.s) D.nv D.n D.np (f + 1) i = (j, false)) (htb : tbS (bt D.s) D.nv D.n D.np D.T (f + 1) i) (hp : p < D.n) (hc : bt D.s i = 114) :
    Calls Try.prog 103 #[.pointer (some ⟨D.b, 0, none⟩), .int .i64 (i : Int), .int .i64 (p : Int)] w fun e w' => e = .returned (.int .i64 ((wd (bt D.s) D.R D.n st.V st.T (f + 1) i p).2.1 : Nat)) ∧ Below w.heap.size w w' := by
  have hi : i < D.s.size := bt_lt (by rw [hc]; omega)
  have hbq := bt_eq D.s i hi
  rw [hc] at hbq
  have hi' : (i : Int) < (D.s.size : Int) := by omega
  have hi3 : (i : Int) < 300 := by have := O.sz; omega
  have p0 := h.pt (i := i) (k := 0) (by omega) (by omega)
  have p1 := h.pt (i := i) (k := 1) (by omega) (by omega)
  have p2 := h.pt (i := i) (k := 2) (by omega) (by omega)
  simp only [Nat.add_zero] at p0
  have k2 := h.tx
  have k1 := h.bo O.A
  have hbz : D.b < w.heap.size := (Array.getElem?_eq_some_iff.1 h).1
  obtain ⟨e1, e2, _⟩ := wfS_inv_r hw hc
  obtain ⟨t0, t1⟩ := htb.2.2.2.2.1 hc
  obtain ⟨d, ed, hd⟩ := isDB_nat e1
  have hi1 : i + 1 < D.s.size := isDB_lt e1
  have HE := hide (congrArg (fun x => x.2.1) (wd_r (R := D.R) (n := D.n) (V := st.V) (T := st.T) (f := f) (p := p) hc))
  simp only at HE
  rw [ed] at HE
  rw [t0] at p0
  rw [t1] at p1
  clear hw htb t0 t1 e1 e2
  go_enter Try.func103, Try.ntmps103
  go_wp2_with fail
  go_region_with (first
    | (go_at_call 100; refine (pDigit_at _ _ 134 (i + 1) D.s (by omega) ((PB.start h).fl.drew).tx hi1 ed).mono ?_; rintro e w' ⟨rfl, rfl⟩)
    | (go_at_call 37; refine (fJoin O.A O.n8 ((PB.start h).fl.drew) hp hd).mono ?_; rintro e w' ⟨rfl, rfl⟩))
  all_goals
    go_wp2_with fail
    go_ret
    exact ⟨by rw [unhide HE]; rfl, (PB.start h).bel.drew⟩

set_option maxHeartbeats 1000000 in
set_option maxRecDepth 100000 in
theorem throw_c (O : FOk D) (hr : InR D.n D.nv D.np st) {f i j p : Nat} (h : Fl D w st) (hw : wfS (bt D.s) D.nv D.n D.np (f + 1) i = (j, false)) (htb : tbS (bt D.s) D.nv D.n D.np D.T (f + 1) i) (hp : p < D.n) (hc : bt D.s i = 99) :
    Calls Try.prog 103 #[.pointer (some ⟨D.b, 0, none⟩), .int .i64 (i : Int), .int .i64 (p : Int)] w fun e w' => e = .returned (.int .i64 ((wd (bt D.s) D.R D.n st.V st.T (f + 1) i p).2.1 : Nat)) ∧ Below w.heap.size w w' := by
  have hi : i < D.s.size := bt_lt (by rw [hc]; omega)
  have hbq := bt_eq D.s i hi
  rw [hc] at hbq
  have hi' : (i : Int) < (D.s.size : Int) := by omega
  have hi3 : (i : Int) < 300 := by have := O.sz; omega
  have p0 := h.pt (i := i) (k := 0) (by omega) (by omega)
  have p1 := h.pt (i := i) (k := 1) (by omega) (by omega)
  have p2 := h.pt (i := i) (k := 2) (by omega) (by omega)
  simp only [Nat.add_zero] at p0
  have k2 := h.tx
  have k1 := h.bo O.A
  have hbz : D.b < w.heap.size := (Array.getElem?_eq_some_iff.1 h).1
  obtain ⟨e1, _⟩ := wfS_inv_c hw hc
  have t0 := htb.2.2.2.2.2.2 hc
  obtain ⟨d, ed, hd⟩ := isDB_nat e1
  have hi1 : i + 1 < D.s.size := isDB_lt e1
  have HE := hide (congrArg (fun x => x.2.1) (wd_c (R := D.R) (n := D.n) (V := st.V) (T := st.T) (f := f) (p := p) hc))
  simp only at HE
  rw [ed] at HE
  rw [t0] at p0
  have kt := h.lt (k := d) (by have := O.np; omega)
  have hd4 : (d : Int) < 4 := by have := O.np; omega
  have hT := hr.T d hd
  clear hw htb t0 e1
  go_enter Try.func103, Try.ntmps103
  go_wp2_with fail
  go_region_with (go_at_call 100; refine (pDigit_at _ _ 134 (i + 1) D.s (by omega) ((PB.start h).fl.drew).tx hi1 ed).mono ?_; rintro e w' ⟨rfl, rfl⟩)
  all_goals
    go_wp2_with fail
    go_region_with (go_at_call 37; refine (fJoin O.A O.n8 ((PB.start h).fl.drew.drew) hp hT).mono ?_; rintro e w' ⟨rfl, rfl⟩)
    all_goals
      go_wp2_with fail
      go_ret
      exact ⟨by rw [unhide HE]; rfl, (PB.start h).bel.drew.drew⟩

theorem fThrow (O : FOk D) (hr : InR D.n D.nv D.np st) (HX : ∀ f, ExOk D st f) : ∀ f, ThOk D st f := by
  intro f
  induction f with
  | zero => intro w i p j _ h; simp [wfS] at h
  | succ f ih =>
    intro w i p j h hw htb hp
    rcases wfS_letter hw with hc | hc | hc | hc | hc | hc | hc | hc
    · rcases hc with hc | hc
      · exact throw_dot O h hw hc
      · exact throw_x O h hw hc
    · rcases hc with hc | hc
      · exact throw_seq O hr ih h hw htb hp hc
      · exact throw_t O hr ih h hw htb hp hc
    · exact throw_eq O hr HX h hw htb hp hc
    · exact throw_i O hr HX ih h hw htb hp hc
    · exact throw_w O hr HX ih h hw htb hp hc
    · exact throw_r O h hw htb hp hc
    · exact throw_o O hr HX h hw htb hp hc
    · exact throw_c O hr h hw htb hp hc

end Go.Proofs.Ytfcflnnleadpkaa
