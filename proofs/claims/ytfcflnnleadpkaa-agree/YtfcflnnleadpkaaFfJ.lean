import Derived.Test.YtfcflnnleadpkaaFdJ
namespace Go.Proofs.Ytfcflnnleadpkaa
open Go.RowKit
variable {D : FD} {w : World} {st : WS}

set_option maxHeartbeats 1000000 in
set_option maxRecDepth 100000 in
theorem throw_dot (O : FOk D) {f i j p : Nat} (h : Fl D w st) (hw : wfS (bt D.s) D.nv D.n D.np (f + 1) i = (j, false)) (hc : bt D.s i = 46) :
    Calls Try.prog 103 #[.pointer (some ⟨D.b, 0, none⟩), .int .i64 (i : Int), .int .i64 (p : Int)] w fun e w' => e = .returned (.int .i64 ((wd (bt D.s) D.R D.n st.V st.T (f + 1) i p).2.1 : Nat)) ∧ Below w.heap.size w w' := by
  have hi : i < D.s.size := bt_lt (by rw [hc]; omega)
  have hbq := bt_eq D.s i hi
  rw [hc] at hbq
  have hi' : (i : Int) < (D.s.size : Int) := by omega
  have hi3 : (i : Int) < 300 := by have := O.sz; omega
  have p0 := h.pt (i := i) (k := 0) (by omega) (by omega)
  have p1 := h.pt (i := i) (k := 1) (by omega) (by omega)
  have p2 := h.pt (i := i) (k := 2) (by omega) (by omega)
  simp only [Nat.add_zero] at p0
  have k2 := h.tx
  have k1 := h.bo O.A
  have hbz : D.b < w.heap.size := (Array.getElem?_eq_some_iff.1 h).1
  have HE := hide (congrArg (fun x => x.2.1) (wd_dot (R := D.R) (n := D.n) (V := st.V) (T := st.T) (f := f) (p := p) hc))
  have _ := hw
  have HB := hide (fun X : Obj => ((Below.refl _ _).alloc (Nat.le_refl _) X : Below w.heap.size w (w.alloc X)))
  clear hw
  go_enter Try.func103, Try.ntmps103
  go_wp2_with fail
  go_ret
  exact ⟨by rw [unhide HE]; rfl, unhide HB _⟩

set_option maxHeartbeats 1000000 in
set_option maxRecDepth 100000 in
theorem throw_x (O : FOk D) {f i j p : Nat} (h : Fl D w st) (hw : wfS (bt D.s) D.nv D.n D.np (f + 1) i = (j, false)) (hc : bt D.s i = 120) :
    Calls Try.prog 103 #[.pointer (some ⟨D.b, 0, none⟩), .int .i64 (i : Int), .int .i64 (p : Int)] w fun e w' => e = .returned (.int .i64 ((wd (bt D.s) D.R D.n st.V st.T (f + 1) i p).2.1 : Nat)) ∧ Below w.heap.size w w' := by
  have hi : i < D.s.size := bt_lt (by rw [hc]; omega)
  have hbq := bt_eq D.s i hi
  rw [hc] at hbq
  have hi' : (i : Int) < (D.s.size : Int) := by omega
  have hi3 : (i : Int) < 300 := by have := O.sz; omega
  have p0 := h.pt (i := i) (k := 0) (by omega) (by omega)
  have p1 := h.pt (i := i) (k := 1) (by omega) (by omega)
  have p2 := h.pt (i := i) (k := 2) (by omega) (by omega)
  simp only [Nat.add_zero] at p0
  have k2 := h.tx
  have k1 := h.bo O.A
  have hbz : D.b < w.heap.size := (Array.getElem?_eq_some_iff.1 h).1
  have HE := hide (congrArg (fun x => x.2.1) (wd_x (R := D.R) (n := D.n) (V := st.V) (T := st.T) (f := f) (p := p) hc))
  have _ := hw
  have HB := hide (fun X : Obj => ((Below.refl _ _).alloc (Nat.le_refl _) X : Below w.heap.size w (w.alloc X)))
  clear hw
  go_enter Try.func103, Try.ntmps103
  go_wp2_with fail
  go_ret
  exact ⟨by rw [unhide HE]; rfl, unhide HB _⟩

set_option maxHeartbeats 1000000 in
set_option maxRecDepth 100000 in
theorem throw_eq (O : FOk D) (hr : InR D.n D.nv D.np st) {f i j p : Nat} (HX : ∀ f, ExOk D st f) (h : Fl D w st) (hw : wfS (bt D.s) D.nv D.n D.np (f + 1) i = (j, false)) (htb : tbS (bt D.s) D.nv D.n D.np D.T (f + 1) i) (hp : p < D.n) (hc : bt D.s i = 61) :
    Calls Try.prog 103 #[.pointer (some ⟨D.b, 0, none⟩), .int .i64 (i : Int), .int .i64 (p : Int)] w fun e w' => e = .returned (.int .i64 ((wd (bt D.s) D.R D.n st.V st.T (f + 1) i p).2.1 : Nat)) ∧ Below w.heap.size w w' := by
  have hi : i < D.s.size := bt_lt (by rw [hc]; omega)
  have hbq := bt_eq D.s i hi
  rw [hc] at hbq
  have hi' : (i : Int) < (D.s.size : Int) := by omega
  have hi3 : (i : Int) < 300 := by have := O.sz; omega
  have p0 := h.pt (i := i) (k := 0) (by omega) (by omega)
  have p1 := h.pt (i := i) (k := 1) (by omega) (by omega)
  have p2 := h.pt (i := i) (k := 2) (by omega) (by omega)
  simp only [Nat.add_zero] at p0
  have k2 := h.tx
  have k1 := h.bo O.A
  have hbz : D.b < w.heap.size := (Array.getElem?_eq_some_iff.1 h).1
  obtain ⟨e1, e2⟩ := wfS_inv_eq hw hc
  obtain ⟨t0, t1, t2⟩ := htb.2.1 hc
  have HE := hide (congrArg (fun x => x.2.1) (wd_eq (R := D.R) (n := D.n) (V := st.V) (T := st.T) (f := f) (p := p) hc))
  rw [t0] at p0
  rw [t1] at p1
  have HXX := hide HX
  have HT := hide t2
  have HS := hide e2
  clear hw htb t0 t1 t2 e2 HX
  go_enter Try.func103, Try.ntmps103
  go_wp2_with fail
  refine (fDiv_at O hr (i := i + 2) (by omega) (unhide HXX f) (PB.start h).fl (unhide HS) (unhide HT) hp).mono ?_
  rintro e w2 ⟨rfl, hb2⟩
  have HP2 := hide ((PB.start h).next hb2)
  clear hb2
  go_wp2_with fail
  go_ret
  exact ⟨by rw [unhide HE]; rfl, (unhide HP2).bel⟩

set_option maxHeartbeats 1000000 in
set_option maxRecDepth 100000 in
theorem throw_o (O : FOk D) (hr : InR D.n D.nv D.np st) {f i j p : Nat} (HX : ∀ f, ExOk D st f) (h : Fl D w st) (hw : wfS (bt D.s) D.nv D.n D.np (f + 1) i = (j, false)) (htb : tbS (bt D.s) D.nv D.n D.np D.T (f + 1) i) (hp : p < D.n) (hc : bt D.s i = 111) :
    Calls Try.prog 103 #[.pointer (some ⟨D.b, 0, none⟩), .int .i64 (i : Int), .int .i64 (p : Int)] w fun e w' => e = .returned (.int .i64 ((wd (bt D.s) D.R D.n st.V st.T (f + 1) i p).2.1 : Nat)) ∧ Below w.heap.size w w' := by
  have hi : i < D.s.size := bt_lt (by rw [hc]; omega)
  have hbq := bt_eq D.s i hi
  rw [hc] at hbq
  have hi' : (i : Int) < (D.s.size : Int) := by omega
  have hi3 : (i : Int) < 300 := by have := O.sz; omega
  have p0 := h.pt (i := i) (k := 0) (by omega) (by omega)
  have p1 := h.pt (i := i) (k := 1) (by omega) (by omega)
  have p2 := h.pt (i := i) (k := 2) (by omega) (by omega)
  simp only [Nat.add_zero] at p0
  have k2 := h.tx
  have k1 := h.bo O.A
  have hbz : D.b < w.heap.size := (Array.getElem?_eq_some_iff.1 h).1
  obtain ⟨e1, e2⟩ := wfS_inv_o hw hc
  obtain ⟨t0, t1, t2⟩ := htb.2.2.2.2.2.1 hc
  have HE := hide (congrArg (fun x => x.2.1) (wd_o (R := D.R) (n := D.n) (V := st.V) (T := st.T) (f := f) (p := p) hc))
  rw [t0] at p0
  rw [t1] at p1
  have HXX := hide HX
  have HT := hide t2
  have HS := hide e2
  clear hw htb t0 t1 t2 e2 HX
  go_enter Try.func103, Try.ntmps103
  go_wp2_with fail
  refine (fDiv_at O hr (i := i + 2) (by omega) (unhide HXX f) (PB.start h).fl (unhide HS) (unhide HT) hp).mono ?_
  rintro e w2 ⟨rfl, hb2⟩
  have HP2 := hide ((PB.start h).next hb2)
  clear hb2
  go_wp2_with fail
  go_ret
  exact ⟨by rw [unhide HE]; rfl, (unhide HP2).bel⟩

set_option maxHeartbeats 1000000 in
set_option maxRecDepth 100000 in
theorem throw_seq (O : FOk D) (hr : InR D.n D.nv D.np st) {f i j p : Nat} (TH : ThOk D st f) (h : Fl D w st) (hw : wfS (bt D.s) D.nv D.n D.np (f + 1) i = (j, false)) (htb : tbS (bt D.s) D.nv D.n D.np D.T (f + 1) i) (hp : p < D.n) (hc : bt D.s i = 44) :
    Calls Try.prog 103 #[.pointer (some ⟨D.b, 0, none⟩), .int .i64 (i : Int), .int .i64 (p : Int)] w fun e w' => e = .returned (.int .i64 ((wd (bt D.s) D.R D.n st.V st.T (f + 1) i p).2.1 : Nat)) ∧ Below w.heap.size w w' := by
  have hi : i < D.s.size := bt_lt (by rw [hc]; omega)
  have hbq := bt_eq D.s i hi
  rw [hc] at hbq
  have hi' : (i : Int) < (D.s.size : Int) := by omega
  have hi3 : (i : Int) < 300 := by have := O.sz; omega
  have p0 := h.pt (i := i) (k := 0) (by omega) (by omega)
  have p1 := h.pt (i := i) (k := 1) (by omega) (by omega)
  have p2 := h.pt (i := i) (k := 2) (by omega) (by omega)
  simp only [Nat.add_zero] at p0
  have k2 := h.tx
  have k1 := h.bo O.A
  have hbz : D.b < w.heap.size := (Array.getElem?_eq_some_iff.1 h).1
  obtain ⟨k, e1, e2⟩ := wfS_inv_seq hw (Or.inl hc)
  obtain ⟨t0, t1, tb1, tb2⟩ := htb.1 (Or.inl hc)
  rw [e1] at t1 tb2
  obtain ⟨w1, a2, _⟩ := wd_ok (c := bt D.s) O.A.L O.A.n1 hr.V hr.T f (i + 1) p k e1 hp
  have HE := hide (congrArg (fun x => x.2.1) (wd_seq (R := D.R) (n := D.n) (V := st.V) (T := st.T) (f := f) (p := p) (Or.inl hc)))
  simp only at HE
  rw [if_pos hc, w1] at HE
  rw [t0] at p0
  rw [t1] at p1
  have HTH := hide TH
  have HT1 := hide tb1
  have HT2 := hide tb2
  have HS1 := hide e1
  have HS2 := hide e2
  clear hw htb t0 t1 tb1 tb2 e1 e2 TH w1
  go_enter Try.func103, Try.ntmps103
  go_wp2_with fail
  refine ((unhide HTH).at (i := i + 1) (by omega) (PB.start h).fl (unhide HS1) (unhide HT1) hp).mono ?_
  rintro e w2 ⟨rfl, hb2⟩
  have hp2 := (PB.start h).next hb2
  have HP2 := hide hp2
  have q1 := hp2.c1
  clear hb2 hp2 p0 p1 p2 k1 k2
  generalize (wd (bt D.s) D.R D.n st.V st.T f (i + 1) p).2.1 = x at *
  have hx := O.A.lt hp a2
  have b2 := (wd_ok (c := bt D.s) O.A.L O.A.n1 hr.V hr.T f k _ j (unhide HS2) hx).2.1
  go_wp2_with fail
  go_region_with (first
    | (go_at_call 37; refine (fJoin O.A O.n8 (unhide HP2).fl.drew hp a2).mono ?_; rintro e w' ⟨rfl, rfl⟩)
    | (go_at_call 103; refine ((unhide HTH).at (i := k) rfl (unhide HP2).fl.drew (unhide HS2) (unhide HT2) hx).mono ?_; rintro e w3 ⟨rfl, hb3⟩; have HP3 := hide ((unhide HP2).drew.next hb3); clear hb3))
  all_goals
    go_wp2_with fail
    refine (fJoin O.A O.n8 (unhide HP3).fl a2 b2).mono ?_
    rintro e w' ⟨rfl, rfl⟩
    go_wp2_with fail
    go_ret
    exact ⟨by rw [unhide HE]; rfl, (unhide HP3).bel⟩

set_option maxHeartbeats 1000000 in
set_option maxRecDepth 100000 in
theorem throw_t (O : FOk D) (hr : InR D.n D.nv D.np st) {f i j p : Nat} (TH : ThOk D st f) (h : Fl D w st) (hw : wfS (bt D.s) D.nv D.n D.np (f + 1) i = (j, false)) (htb : tbS (bt D.s) D.nv D.n D.np D.T (f + 1) i) (hp : p < D.n) (hc : bt D.s i = 116) :
    Calls Try.prog 103 #[.pointer (some ⟨D.b, 0, none⟩), .int .i64 (i : Int), .int .i64 (p : Int)] w fun e w' => e = .returned (.int .i64 ((wd (bt D.s) D.R D.n st.V st.T (f + 1) i p).2.1 : Nat)) ∧ Below w.heap.size w w' := by
  have hi : i < D.s.size := bt_lt (by rw [hc]; omega)
  have hbq := bt_eq D.s i hi
  rw [hc] at hbq
  have hi' : (i : Int) < (D.s.size : Int) := by omega
  have hi3 : (i : Int) < 300 := by have := O.sz; omega
  have p0 := h.pt (i := i) (k := 0) (by omega) (by omega)
  have p1 := h.pt (i := i) (k := 1) (by omega) (by omega)
  have p2 := h.pt (i := i) (k := 2) (by omega) (by omega)
  simp only [Nat.add_zero] at p0
  have k2 := h.tx
  have k1 := h.bo O.A
  have hbz : D.b < w.heap.size := (Array.getElem?_eq_some_iff.1 h).1
  obtain ⟨k, e1, e2⟩ := wfS_inv_seq hw (Or.inr hc)
  obtain ⟨t0, t1, tb1, tb2⟩ := htb.1 (Or.inr hc)
  rw [e1] at t1 tb2
  obtain ⟨w1, a2, _⟩ := wd_ok (c := bt D.s) O.A.L O.A.n1 hr.V hr.T f (i + 1) p k e1 hp
  have HE := hide (congrArg (fun x => x.2.1) (wd_seq (R := D.R) (n := D.n) (V := st.V) (T := st.T) (f := f) (p := p) (Or.inr hc)))
  simp only at HE
  rw [if_neg (by rw [hc]; omega), w1] at HE
  rw [t0] at p0
  rw [t1] at p1
  have HTH := hide TH
  have HT1 := hide tb1
  have HT2 := hide tb2
  have HS1 := hide e1
  have HS2 := hide e2
  clear hw htb t0 t1 tb1 tb2 e1 e2 TH w1
  go_enter Try.func103, Try.ntmps103
  go_wp2_with fail
  refine (fBehind_at O hr (i := i + 1) (by omega) (unhide HTH) (PB.start h).fl (unhide HS1) (unhide HT1) hp).mono ?_
  rintro e w2 ⟨rfl, hb2⟩
  have hp2 := (PB.start h).next hb2
  have HP2 := hide hp2
  have q1 := hp2.c1
  clear hb2 hp2 p0 p1 p2 k1 k2
  generalize (wd (bt D.s) D.R D.n st.V st.T f (i + 1) p).2.1 = x at *
  have hx := O.A.lt hp a2
  go_wp2_with fail
  refine ((unhide HTH).at (i := k) rfl (unhide HP2).fl (unhide HS2) (unhide HT2) hx).mono ?_
  rintro e w3 ⟨rfl, hb3⟩
  have HP3 := hide ((unhide HP2).next hb3)
  clear hb3
  go_wp2_with fail
  go_ret
  exact ⟨by rw [unhide HE]; rfl, (unhide HP3).bel⟩

end Go.Proofs.Ytfcflnnleadpkaa
