import Derived.Test.YtfcflnnleadpkaaGreatFdJ
import Derived.Test.YtfcflnnleadpkaaGreatTjJ
namespace Go.Proofs.YtfcflnnleadpkaaGreat
open Go.RowKit
variable {D : FD} {w : World} {st : WS}

set_option maxHeartbeats 1000000 in
set_option maxRecDepth 100000 in
theorem throw_i (O : FOk D) (hr : InR D.n D.nv D.np st) {f i j p : Nat} (HX : ∀ f, ExOk D st f) (TH : ThOk D st f) (h : Fl D w st) (hw : wfS (bt D.s) D.nv D.n D.np (f + 1) i = (j, false)) (htb : tbS (bt D.s) D.nv D.n D.np D.T (f + 1) i) (hp : p < D.n) (hc : bt D.s i = 105) :
    Calls Tryz.prog 85 #[.pointer (some ⟨D.b, 0, none⟩), .int .i64 (i : Int), .int .i64 (p : Int)] w fun e w' => e = .returned (.int .i64 ((wd (bt D.s) D.R D.n st.V st.T (f + 1) i p).2.1 : Nat)) ∧ Below w.heap.size w w' := by
  have hi : i < D.s.size := bt_lt (by rw [hc]; omega)
  have hbq := bt_eq D.s i hi
  rw [hc] at hbq
  have hi' : (i : Int) < (D.s.size : Int) := by omega
  have hi3 : (i : Int) < 300 := by have := O.sz; omega
  have p0 := h.pt (i := i) (k := 0) (by omega) (by omega)
  have p1 := h.pt (i := i) (k := 1) (by omega) (by omega)
  have p2 := h.pt (i := i) (k := 2) (by omega) (by omega)
  simp only [Nat.add_zero] at p0
  have k2 := h.tx
  have k1 := h.bo O.A
  have hbz : D.b < w.heap.size := (Array.getElem?_eq_some_iff.1 h).1
  obtain ⟨k, m, e1, e2, e3⟩ := wfS_inv_i hw hc
  obtain ⟨t0, t1, t2, tb1, tb2, tb3⟩ := htb.2.2.1 hc
  rw [e1] at t1 t2 tb2 tb3
  rw [e2] at t2 tb3
  obtain ⟨c1, a2, a3⟩ := condW_ok (c := bt D.s) O.A.L O.A.n1 hr.V hp e1
  obtain ⟨w1, b2, _⟩ := wd_ok (c := bt D.s) O.A.L O.A.n1 hr.V hr.T f k _ m e2 a2
  obtain ⟨_, d2, _⟩ := wd_ok (c := bt D.s) O.A.L O.A.n1 hr.V hr.T f m _ j e3 a2
  have HE := hide (congrArg (fun x => x.2.1) (wd_i (R := D.R) (n := D.n) (V := st.V) (T := st.T) (f := f) (p := p) hc))
  simp only at HE
  rw [c1, w1, O.A.comm a3 (O.A.lt b2 d2)] at HE
  rw [t0] at p0
  rw [t1] at p1
  rw [t2] at p2
  have HXX := hide HX
  have HTH := hide TH
  have HT1 := hide tb1
  have HT2 := hide tb2
  have HT3 := hide tb3
  have HS1 := hide e1
  have HS2 := hide e2
  have HS3 := hide e3
  clear hw htb t0 t1 t2 tb1 tb2 tb3 e1 e2 e3 TH HX w1 c1
  go_enter Tryz.func85, Tryz.ntmps85
  go_wp2_with fail
  refine (fUnder_at O hr (i := i + 1) (by omega) (unhide HXX f) (PB.start h).fl (unhide HS1) (unhide HT1) hp).mono ?_
  rintro e w2 ⟨rfl, hb2⟩
  have hp2 := (PB.start h).next hb2
  have HP2 := hide hp2
  have q1 := hp2.c1
  clear hb2 hp2 p0 p1 p2 k1 k2
  have HCD := hide (show (condW (bt D.s) D.R D.n st.V f (i + 1) p).2.2 = (condW (bt D.s) D.R D.n st.V f (i + 1) p).2.2 from rfl)
  generalize hx0 : (condW (bt D.s) D.R D.n st.V f (i + 1) p).2.1 = x at *
  clear hx0
  go_wp2_with fail
  refine ((unhide HTH).at (i := k) rfl (unhide HP2).fl (unhide HS2) (unhide HT2) a2).mono ?_
  rintro e w3 ⟨rfl, hb3⟩
  have hp3 := (unhide HP2).next hb3
  have HP3 := hide hp3
  have q2 := hp3.c2
  clear hb3 hp3 q1
  generalize (wd (bt D.s) D.R D.n st.V st.T f k x).2.1 = y at *
  go_wp2_with fail
  refine ((unhide HTH).at (i := m) rfl (unhide HP3).fl (unhide HS3) (unhide HT3) a2).mono ?_
  rintro e w4 ⟨rfl, hb4⟩
  have hp4 := (unhide HP3).next hb4
  have HP4 := hide hp4
  have q0 := hp4.c0
  clear hb4 hp4 q2
  generalize (wd (bt D.s) D.R D.n st.V st.T f m x).2.1 = z at *
  go_wp2_with fail
  refine (fJoin O.A O.n8 (unhide HP4).fl b2 d2).mono ?_
  rintro e w' ⟨rfl, rfl⟩
  go_wp2_with fail
  go_region_with (first
    | (go_at_call 106; refine (fDiv_at O hr (i := i + 1) (by omega) (unhide HXX f) (unhide HP4).fl.drew (unhide HS1) (unhide HT1) hp).mono ?_; rintro e w5 ⟨rfl, hb5⟩; have HP5 := hide ((unhide HP4).drew.next hb5); clear hb5)
    | (go_at_call 105; refine (fJoin O.A O.n8 (unhide HP5).fl (O.A.lt b2 d2) a3).mono ?_; rintro e w' ⟨rfl, rfl⟩))
  all_goals
    go_wp2_with fail
    go_ret
    exact ⟨by rw [unhide HE]; rfl, (unhide HP5).bel⟩

set_option maxHeartbeats 1000000 in
set_option maxRecDepth 100000 in
theorem throw_w (O : FOk D) (hr : InR D.n D.nv D.np st) {f i j p : Nat} (HX : ∀ f, ExOk D st f) (TH : ThOk D st f) (h : Fl D w st) (hw : wfS (bt D.s) D.nv D.n D.np (f + 1) i = (j, false)) (htb : tbS (bt D.s) D.nv D.n D.np D.T (f + 1) i) (hp : p < D.n) (hc : bt D.s i = 119) :
    Calls Tryz.prog 85 #[.pointer (some ⟨D.b, 0, none⟩), .int .i64 (i : Int), .int .i64 (p : Int)] w fun e w' => e = .returned (.int .i64 ((wd (bt D.s) D.R D.n st.V st.T (f + 1) i p).2.1 : Nat)) ∧ Below w.heap.size w w' := by
  have hi : i < D.s.size := bt_lt (by rw [hc]; omega)
  have hbq := bt_eq D.s i hi
  rw [hc] at hbq
  have hi' : (i : Int) < (D.s.size : Int) := by omega
  have hi3 : (i : Int) < 300 := by have := O.sz; omega
  have p0 := h.pt (i := i) (k := 0) (by omega) (by omega)
  have p1 := h.pt (i := i) (k := 1) (by omega) (by omega)
  have p2 := h.pt (i := i) (k := 2) (by omega) (by omega)
  simp only [Nat.add_zero] at p0
  have k2 := h.tx
  have k1 := h.bo O.A
  have hbz : D.b < w.heap.size := (Array.getElem?_eq_some_iff.1 h).1
  obtain ⟨k, e1, e2⟩ := wfS_inv_w hw hc
  obtain ⟨t0, t1, tb1, tb2⟩ := htb.2.2.2.1 hc
  rw [e1] at t1 tb2
  obtain ⟨c1, a2, a3⟩ := condW_ok (c := bt D.s) O.A.L O.A.n1 hr.V hp e1
  have hrr := O.A.lt a2 a3
  obtain ⟨w1, b2, _⟩ := wd_ok (c := bt D.s) O.A.L O.A.n1 hr.V hr.T f k _ j e2 hrr
  have HE := hide (congrArg (fun x => x.2.1) (wd_w (R := D.R) (n := D.n) (V := st.V) (T := st.T) (f := f) (p := p) hc))
  simp only at HE
  rw [c1, O.A.comm a3 b2] at HE
  rw [t0] at p0
  rw [t1] at p1
  have HXX := hide HX
  have HTH := hide TH
  have HT1 := hide tb1
  have HT2 := hide tb2
  have HS1 := hide e1
  have HS2 := hide e2
  clear hw htb t0 t1 tb1 tb2 e1 e2 TH HX w1 c1
  go_enter Tryz.func85, Tryz.ntmps85
  go_wp2_with fail
  refine (fInside_at O hr (i := i + 1) (by omega) (unhide HXX f) (PB.start h).fl (unhide HS1) (unhide HT1) hp).mono ?_
  rintro e w2 ⟨rfl, hb2⟩
  have hp2 := (PB.start h).next hb2
  have HP2 := hide hp2
  have q1 := hp2.c1
  clear hb2 hp2 p0 p1 p2 k1 k2
  generalize jn D.R D.n (condW (bt D.s) D.R D.n st.V f (i + 1) p).2.1 (condW (bt D.s) D.R D.n st.V f (i + 1) p).2.2 = x at *
  go_wp2_with fail
  refine ((unhide HTH).at (i := k) rfl (unhide HP2).fl (unhide HS2) (unhide HT2) hrr).mono ?_
  rintro e w3 ⟨rfl, hb3⟩
  have hp3 := (unhide HP2).next hb3
  have HP3 := hide hp3
  have q0 := hp3.c0
  clear hb3 hp3 q1
  generalize (wd (bt D.s) D.R D.n st.V st.T f k x).2.1 = y at *
  go_wp2_with fail
  go_region_with (first
    | (go_at_call 106; refine (fDiv_at O hr (i := i + 1) (by omega) (unhide HXX f) (unhide HP3).fl.drew (unhide HS1) (unhide HT1) hp).mono ?_; rintro e w5 ⟨rfl, hb5⟩; have HP5 := hide ((unhide HP3).drew.next hb5); clear hb5)
    | (go_at_call 105; refine (fJoin O.A O.n8 (unhide HP5).fl b2 a3).mono ?_; rintro e w' ⟨rfl, rfl⟩))
  all_goals
    go_wp2_with fail
    go_ret
    exact ⟨by rw [unhide HE]; rfl, (unhide HP5).bel⟩

set_option maxHeartbeats 1000000 in
set_option maxRecDepth 100000 in
theorem throw_r (O : FOk D) {f i j p : Nat} (h : Fl D w st) (hw : wfS (bt D.s) D.nv D.n D.np (f + 1) i = (j, false)) (htb : tbS (bt D.s) D.nv D.n D.np D.T (f + 1) i) (hp : p < D.n) (hc : bt D.s i = 114) :
    Calls Tryz.prog 85 #[.pointer (some ⟨D.b, 0, none⟩), .int .i64 (i : Int), .int .i64 (p : Int)] w fun e w' => e = .returned (.int .i64 ((wd (bt D.s) D.R D.n st.V st.T (f + 1) i p).2.1 : Nat)) ∧ Below w.heap.size w w' := by
  have hi : i < D.s.size := bt_lt (by rw [hc]; omega)
  have hbq := bt_eq D.s i hi
  rw [hc] at hbq
  have hi' : (i : Int) < (D.s.size : Int) := by omega
  have hi3 : (i : Int) < 300 := by have := O.sz; omega
  have p0 := h.pt (i := i) (k := 0) (by omega) (by omega)
  have p1 := h.pt (i := i) (k := 1) (by omega) (by omega)
  have p2 := h.pt (i := i) (k := 2) (by omega) (by omega)
  simp only [Nat.add_zero] at p0
  have k2 := h.tx
  have k1 := h.bo O.A
  have hbz : D.b < w.heap.size := (Array.getElem?_eq_some_iff.1 h).1
  obtain ⟨e1, e2, _⟩ := wfS_inv_r hw hc
  obtain ⟨t0, t1⟩ := htb.2.2.2.2.1 hc
  obtain ⟨d, ed, hd⟩ := isDB_nat e1
  have hi1 : i + 1 < D.s.size := isDB_lt e1
  have HE := hide (congrArg (fun x => x.2.1) (wd_r (R := D.R) (n := D.n) (V := st.V) (T := st.T) (f := f) (p := p) hc))
  simp only at HE
  rw [ed] at HE
  rw [t0] at p0
  rw [t1] at p1
  clear hw htb t0 t1 e1 e2
  go_enter Tryz.func85, Tryz.ntmps85
  go_wp2_with fail
  go_region_with (first
    | (go_at_call 82; refine (pDigit_at _ _ 134 (i + 1) D.s (by omega) ((PB.start h).fl.drew).tx hi1 ed).mono ?_; rintro e w' ⟨rfl, rfl⟩)
    | (go_at_call 105; refine (fJoin O.A O.n8 ((PB.start h).fl.drew) hp hd).mono ?_; rintro e w' ⟨rfl, rfl⟩))
  all_goals
    go_wp2_with fail
    go_ret
    exact ⟨by rw [unhide HE]; rfl, (PB.start h).bel.drew⟩

set_option maxHeartbeats 1000000 in
set_option maxRecDepth 100000 in
theorem throw_c (O : FOk D) (hr : InR D.n D.nv D.np st) {f i j p : Nat} (h : Fl D w st) (hw : wfS (bt D.s) D.nv D.n D.np (f + 1) i = (j, false)) (htb : tbS (bt D.s) D.nv D.n D.np D.T (f + 1) i) (hp : p < D.n) (hc : bt D.s i = 99) :
    Calls Tryz.prog 85 #[.pointer (some ⟨D.b, 0, none⟩), .int .i64 (i : Int), .int .i64 (p : Int)] w fun e w' => e = .returned (.int .i64 ((wd (bt D.s) D.R D.n st.V st.T (f + 1) i p).2.1 : Nat)) ∧ Below w.heap.size w w' := by
  have hi : i < D.s.size := bt_lt (by rw [hc]; omega)
  have hbq := bt_eq D.s i hi
  rw [hc] at hbq
  have hi' : (i : Int) < (D.s.size : Int) := by omega
  have hi3 : (i : Int) < 300 := by have := O.sz; omega
  have p0 := h.pt (i := i) (k := 0) (by omega) (by omega)
  have p1 := h.pt (i := i) (k := 1) (by omega) (by omega)
  have p2 := h.pt (i := i) (k := 2) (by omega) (by omega)
  simp only [Nat.add_zero] at p0
  have k2 := h.tx
  have k1 := h.bo O.A
  have hbz : D.b < w.heap.size := (Array.getElem?_eq_some_iff.1 h).1
  obtain ⟨e1, _⟩ := wfS_inv_c hw hc
  have t0 := htb.2.2.2.2.2.2 hc
  obtain ⟨d, ed, hd⟩ := isDB_nat e1
  have hi1 : i + 1 < D.s.size := isDB_lt e1
  have HE := hide (congrArg (fun x => x.2.1) (wd_c (R := D.R) (n := D.n) (V := st.V) (T := st.T) (f := f) (p := p) hc))
  simp only at HE
  rw [ed] at HE
  rw [t0] at p0
  have kt := h.lt (k := d) (by have := O.np; omega)
  have hd4 : (d : Int) < 4 := by have := O.np; omega
  have hT := hr.T d hd
  clear hw htb t0 e1
  go_enter Tryz.func85, Tryz.ntmps85
  go_wp2_with fail
  go_region_with (go_at_call 82; refine (pDigit_at _ _ 134 (i + 1) D.s (by omega) ((PB.start h).fl.drew).tx hi1 ed).mono ?_; rintro e w' ⟨rfl, rfl⟩)
  all_goals
    go_wp2_with fail
    go_region_with (go_at_call 105; refine (fJoin O.A O.n8 ((PB.start h).fl.drew.drew) hp hT).mono ?_; rintro e w' ⟨rfl, rfl⟩)
    all_goals
      go_wp2_with fail
      go_ret
      exact ⟨by rw [unhide HE]; rfl, (PB.start h).bel.drew.drew⟩

theorem fThrow (O : FOk D) (hr : InR D.n D.nv D.np st) (HX : ∀ f, ExOk D st f) : ∀ f, ThOk D st f := by
  intro f
  induction f with
  | zero => intro w i p j _ h; simp [wfS] at h
  | succ f ih =>
    intro w i p j h hw htb hp
    rcases wfS_letter hw with hc | hc | hc | hc | hc | hc | hc | hc
    · rcases hc with hc | hc
      · exact throw_dot O h hw hc
      · exact throw_x O h hw hc
    · rcases hc with hc | hc
      · exact throw_seq O hr ih h hw htb hp hc
      · exact throw_t O hr ih h hw htb hp hc
    · exact throw_eq O hr HX h hw htb hp hc
    · exact throw_i O hr HX ih h hw htb hp hc
    · exact throw_w O hr HX ih h hw htb hp hc
    · exact throw_r O h hw htb hp hc
    · exact throw_o O hr HX h hw htb hp hc
    · exact throw_c O hr h hw htb hp hc

end Go.Proofs.YtfcflnnleadpkaaGreat

namespace Go.Proofs.YtfcflnnleadpkaaGreat

section
variable (c : Nat → Int) (R : Nat → Nat → Bool) (n : Nat) (fx : Nat → Int)
/-- The program's demands: the first fault is kept. -/
def demP (st : WS) (a b i : Nat) : WS := if st.bad < 0 ∧ R a b = false then { st with bad := (i : Int) } else st
def raV (st : WS) (v a : Nat) : WS := if jn R n (st.V v) a = st.V v then st else { st with V := setF st.V v (jn R n (st.V v) a), ra := true }
def raX (st : WS) (k a : Nat) : WS := if jn R n (st.X k) a = st.X k then st else { st with X := setF st.X k (jn R n (st.X k) a), ra := true }
def raT (st : WS) (k a : Nat) : WS := if jn R n (st.T k) a = st.T k then st else { st with T := setF st.T k (jn R n (st.T k) a), ra := true }
def atLP (st : WS) (v a i : Nat) : WS := if fx v < 0 then raV R n st v a else demP R st a (st.V v) i
/-- The program's look at a statement: the demands, in the order of the text; throws by the table. -/
def pS : Nat → Nat → Nat → WS → WS
  | 0, _, _, st => st
  | f + 1, i, p, st =>
    if c i = 44 ∨ c i = 116 then
      pS f (wd c R n st.V st.T f (i + 1) p).1 (jn R n p (wd c R n (pS f (i + 1) p st).V (pS f (i + 1) p st).T f (i + 1) p).2.1) (pS f (i + 1) p st)
    else if c i = 61 then atLP R n fx st (c (i + 1) - 97).toNat (condW c R n st.V f (i + 2) p).2.1 i
    else if c i = 105 then
      pS f (wd c R n st.V st.T f (condW c R n st.V f (i + 1) p).1 (condW c R n st.V f (i + 1) p).2.1).1 (condW c R n st.V f (i + 1) p).2.1 (pS f (condW c R n st.V f (i + 1) p).1 (condW c R n st.V f (i + 1) p).2.1 st)
    else if c i = 119 then
      pS f (condW c R n st.V f (i + 1) p).1 (jn R n (jn R n (condW c R n st.V f (i + 1) p).2.1 (condW c R n st.V f (i + 1) p).2.2) (wd c R n st.V st.T f (condW c R n st.V f (i + 1) p).1 (jn R n (condW c R n st.V f (i + 1) p).2.1 (condW c R n st.V f (i + 1) p).2.2)).2.1) st
    else if c i = 114 then atLP R n fx (demP R st p (c (i + 1) - 48).toNat i) (c (i + 2) - 97).toNat (jn R n p (c (i + 1) - 48).toNat) i
    else if c i = 111 then demP R st (condW c R n st.V f (i + 2) p).2.1 (c (i + 1) - 48).toNat i
    else if c i = 99 then raX R n st (c (i + 1) - 48).toNat p
    else st
end
section
variable {c : Nat → Int} {R : Nat → Nat → Bool} {n nv np : Nat} {fx : Nat → Int} {f i p : Nat} {st r : WS} {V T X V' T' X' : Nat → Nat}
theorem pS_seq (h : c i = 44 ∨ c i = 116) : pS c R n fx (f + 1) i p st =
      pS c R n fx f (wd c R n st.V st.T f (i + 1) p).1 (jn R n p (wd c R n (pS c R n fx f (i + 1) p st).V (pS c R n fx f (i + 1) p st).T f (i + 1) p).2.1) (pS c R n fx f (i + 1) p st) := by
  simp only [pS]; rw [if_pos h]
theorem pS_eq (h : c i = 61) : pS c R n fx (f + 1) i p st = atLP R n fx st (c (i + 1) - 97).toNat (condW c R n st.V f (i + 2) p).2.1 i := by
  simp only [pS]; rw [if_neg (by omega), if_pos h]
theorem pS_i (h : c i = 105) : pS c R n fx (f + 1) i p st =
      pS c R n fx f (wd c R n st.V st.T f (condW c R n st.V f (i + 1) p).1 (condW c R n st.V f (i + 1) p).2.1).1 (condW c R n st.V f (i + 1) p).2.1 (pS c R n fx f (condW c R n st.V f (i + 1) p).1 (condW c R n st.V f (i + 1) p).2.1 st) := by
  simp only [pS]; rw [if_neg (by omega), if_neg (by omega), if_pos h]
theorem pS_w (h : c i = 119) : pS c R n fx (f + 1) i p st =
      pS c R n fx f (condW c R n st.V f (i + 1) p).1 (jn R n (jn R n (condW c R n st.V f (i + 1) p).2.1 (condW c R n st.V f (i + 1) p).2.2) (wd c R n st.V st.T f (condW c R n st.V f (i + 1) p).1 (jn R n (condW c R n st.V f (i + 1) p).2.1 (condW c R n st.V f (i + 1) p).2.2)).2.1) st := by
  simp only [pS]; rw [if_neg (by omega), if_neg (by omega), if_neg (by omega), if_pos h]
theorem pS_r (h : c i = 114) : pS c R n fx (f + 1) i p st = atLP R n fx (demP R st p (c (i + 1) - 48).toNat i) (c (i + 2) - 97).toNat (jn R n p (c (i + 1) - 48).toNat) i := by
  simp only [pS]; rw [if_neg (by omega), if_neg (by omega), if_neg (by omega), if_neg (by omega), if_pos h]
theorem pS_o (h : c i = 111) : pS c R n fx (f + 1) i p st = demP R st (condW c R n st.V f (i + 2) p).2.1 (c (i + 1) - 48).toNat i := by
  simp only [pS]; rw [if_neg (by omega), if_neg (by omega), if_neg (by omega), if_neg (by omega), if_neg (by omega), if_pos h]
theorem pS_c (h : c i = 99) : pS c R n fx (f + 1) i p st = raX R n st (c (i + 1) - 48).toNat p := by
  simp only [pS]; rw [if_neg (by omega), if_neg (by omega), if_neg (by omega), if_neg (by omega), if_neg (by omega), if_neg (by omega), if_pos h]
theorem pS_plain (h : c i = 46 ∨ c i = 120) : pS c R n fx (f + 1) i p st = st := by
  simp only [pS]; rw [if_neg (by omega), if_neg (by omega), if_neg (by omega), if_neg (by omega), if_neg (by omega), if_neg (by omega), if_neg (by omega)]

/-- The first fault, in the order of the demands. -/
def bg1 (R : Nat → Nat → Bool) (V X : Nat → Nat) (d : Dm) (b : Int) : Int := if b < 0 ∧ R d.a (tgv V X d.tg) = false then (d.pl : Int) else b
def bdG (R : Nat → Nat → Bool) (V X : Nat → Nat) : List Dm → Int → Int
  | [], b => b
  | d :: ds, b => bdG R V X ds (bg1 R V X d b)
theorem bdG_append (ds es : List Dm) : ∀ b, bdG R V X (ds ++ es) b = bdG R V X es (bdG R V X ds b) := by
  induction ds with
  | nil => intro b; rfl
  | cons d ds ih => intro b; exact ih _
theorem demP_put {a b k : Nat} : demP R st a b k = putB st (if st.bad < 0 ∧ R a b = false then (k : Int) else st.bad) := by
  unfold demP putB
  by_cases h : st.bad < 0 ∧ R a b = false
  · rw [if_pos h, if_pos h]
  · rw [if_neg h, if_neg h]

/-- Still, with this fault; or raised. -/
def SG (R : Nat → Nat → Bool) (n nv np : Nat) (fx : Nat → Int) (st r : WS) (ds : List Dm) : Prop :=
  (r = putB st (bdG R st.V st.X ds st.bad) ∧ Sat R n fx st.V st.X ds) ∨ (r.ra = true ∧ mH R n nv np st < mH R n nv np r)

theorem raV_low (A : Lat n R) (hr : InR n nv np st) {v a k : Nat} (hv : v < nv) (ha : a < n) (hf : fx v < 0) :
    InR n nv np (raV R n st v a) ∧ Ris R n nv np fx st (raV R n st v a) ∧ SG R n nv np fx st (raV R n st v a) [⟨k, a, .var v⟩] ∧
    (Bel R n nv st.V V' → Le R n a (V' v) → Bel R n nv (raV R n st v a).V V') ∧ (raV R n st v a).X = st.X := by
  have hl := A.l (hr.V v hv) ha
  unfold raV
  by_cases hj : jn R n (st.V v) a = st.V v
  · rw [if_pos hj]
    have hle := A.of_jn (hr.V v hv) ha hj
    refine ⟨hr, Ris.rfl A hr, Or.inl ⟨?_, Sat.one (fun _ => hle)⟩, fun h _ => h, rfl⟩
    show st = putB st (bg1 R st.V st.X ⟨k, a, .var v⟩ st.bad)
    unfold bg1
    rw [if_neg (fun h => by have h1 := h.2; have h2 : R a (st.V v) = true := hle.1; simp only [tgv] at h1; rw [h2] at h1; cases h1)]
    rfl
  · rw [if_neg hj]
    have hb : Bel R n nv st.V (setF st.V v (jn R n (st.V v) a)) := Bel.set A hr.V hl
    refine ⟨⟨fun k hk => (hb k hk).2.2, hr.X, hr.T⟩, ⟨hb, Bel.refl A hr.X, rfl, fun _ => rfl, fun k hk => ?_⟩, Or.inr ⟨rfl, ?_⟩, fun h h2 => h.setU (A.sup (h v hv) h2), rfl⟩
    · show setF st.V v _ k = st.V k
      unfold setF; rw [if_neg (fun e => by rw [e] at hk; omega)]
    · have h3 := sm_lt A nv hb hv (by unfold setF; rw [if_pos rfl]; exact fun e => hj e.symm)
      unfold Go.Proofs.YtfcflnnleadpkaaGreat.mH
      simp only
      omega
theorem raX_low (A : Lat n R) (hr : InR n nv np st) {v a k : Nat} (hv : v < np) (ha : a < n) :
    InR n nv np (raX R n st v a) ∧ Ris R n nv np fx st (raX R n st v a) ∧ SG R n nv np fx st (raX R n st v a) [⟨k, a, .ctx v⟩] ∧
    (Bel R n np st.X X' → Le R n a (X' v) → Bel R n np (raX R n st v a).X X') ∧ (raX R n st v a).V = st.V := by
  have hl := A.l (hr.X v hv) ha
  unfold raX
  by_cases hj : jn R n (st.X v) a = st.X v
  · rw [if_pos hj]
    have hle := A.of_jn (hr.X v hv) ha hj
    refine ⟨hr, Ris.rfl A hr, Or.inl ⟨?_, Sat.one (fun _ => hle)⟩, fun h _ => h, rfl⟩
    show st = putB st (bg1 R st.V st.X ⟨k, a, .ctx v⟩ st.bad)
    unfold bg1
    rw [if_neg (fun h => by have h1 := h.2; have h2 : R a (st.X v) = true := hle.1; simp only [tgv] at h1; rw [h2] at h1; cases h1)]
    rfl
  · rw [if_neg hj]
    have hb : Bel R n np st.X (setF st.X v (jn R n (st.X v) a)) := Bel.set A hr.X hl
    refine ⟨⟨hr.V, fun k hk => (hb k hk).2.2, hr.T⟩, ⟨Bel.refl A hr.V, hb, rfl, fun _ => rfl, fun _ _ => rfl⟩, Or.inr ⟨rfl, ?_⟩, fun h h2 => h.setU (A.sup (h v hv) h2), rfl⟩
    have h3 := sm_lt A np hb hv (by unfold setF; rw [if_pos rfl]; exact fun e => hj e.symm)
    unfold Go.Proofs.YtfcflnnleadpkaaGreat.mH
    simp only
    omega
theorem demP_low (A : Lat n R) (hr : InR n nv np st) {a b k : Nat} {tg : Tgt} (ht : tgv st.V st.X tg = b) (hs : ¬ soft fx tg) :
    InR n nv np (demP R st a b k) ∧ Ris R n nv np fx st (demP R st a b k) ∧ SG R n nv np fx st (demP R st a b k) [⟨k, a, tg⟩] ∧ (demP R st a b k).V = st.V ∧ (demP R st a b k).X = st.X ∧ (demP R st a b k).T = st.T := by
  rw [demP_put]
  refine ⟨⟨hr.V, hr.X, hr.T⟩, Ris.put A hr _, Or.inl ⟨?_, Sat.one (fun h => absurd h hs)⟩, rfl, rfl, rfl⟩
  show putB st _ = putB st (bg1 R st.V st.X ⟨k, a, tg⟩ st.bad)
  unfold bg1
  simp only
  rw [ht]
theorem atLP_low (A : Lat n R) (hr : InR n nv np st) {v a k : Nat} (hv : v < nv) (ha : a < n) :
    InR n nv np (atLP R n fx st v a k) ∧ Ris R n nv np fx st (atLP R n fx st v a k) ∧ SG R n nv np fx st (atLP R n fx st v a k) [⟨k, a, .var v⟩] ∧
    (Bel R n nv st.V V' → (fx v < 0 → Le R n a (V' v)) → Bel R n nv (atLP R n fx st v a k).V V') ∧ (atLP R n fx st v a k).X = st.X := by
  unfold atLP
  by_cases hf : fx v < 0
  · rw [if_pos hf]
    obtain ⟨h1, h2, h3, h4, h5⟩ := raV_low (V' := V') (k := k) A hr hv ha hf
    exact ⟨h1, h2, h3, fun a b => h4 a (b hf), h5⟩
  · rw [if_neg hf]
    obtain ⟨h1, h2, h3, h4, h5, h6⟩ := demP_low (a := a) (k := k) (tg := .var v) (b := st.V v) A hr rfl hf
    exact ⟨h1, h2, h3, fun a _ => by rw [h4]; exact a, h5⟩

/-- Two looks, one behind the other. -/
theorem SG.then (A : Lat n R) {s : WS} {ds es es' : List Dm} (hr : InR n nv np r) (h : SG R n nv np fx st r ds) (k : SG R n nv np fx r s es') (hk : Ris R n nv np fx r s)
    (he : r = putB st (bdG R st.V st.X ds st.bad) → es' = es) : SG R n nv np fx st s (ds ++ es) := by
  rcases h with ⟨h1, h2⟩ | ⟨h1, h2⟩
  · have e := he h1
    subst e
    rcases k with ⟨k1, k2⟩ | ⟨k1, k2⟩
    · refine Or.inl ⟨?_, h2.app ?_⟩
      · rw [k1, bdG_append, h1]; rfl
      · rw [h1] at k2; exact k2
    · refine Or.inr ⟨k1, ?_⟩
      rw [h1] at k2
      exact k2
  · exact Or.inr ⟨hk.ra h1, Nat.lt_of_lt_of_le h2 (hk.mH A hr)⟩

/-- The program's look: levels stay levels, the labelling rises, and either nothing was to be raised, or something was. -/
theorem pS_low (A : Lat n R) : ∀ (f i p j : Nat) (st : WS), wfS c nv n np f i = (j, false) → p < n → InR n nv np st →
    InR n nv np (pS c R n fx f i p st) ∧ Ris R n nv np fx st (pS c R n fx f i p st) ∧ SG R n nv np fx st (pS c R n fx f i p st) (wd c R n st.V st.T f i p).2.2 := by
  intro f
  induction f with
  | zero => intro i p j st h; simp [wfS] at h
  | succ f ih =>
    intro i p j st h hp hr
    rcases wfS_letter h with hc | hc | hc | hc | hc | hc | hc | hc
    · rw [pS_plain hc]
      refine ⟨hr, Ris.rfl A hr, Or.inl ?_⟩
      rcases hc with hc | hc
      · rw [wd_dot hc]; exact ⟨rfl, Sat.nil⟩
      · rw [wd_x hc]; exact ⟨rfl, Sat.nil⟩
    · obtain ⟨k, e1, e2⟩ := wfS_inv_seq h hc
      obtain ⟨a1, a2, a3⟩ := ih (i + 1) p k st e1 hp hr
      obtain ⟨w1, w2, _⟩ := wd_ok (c := c) A.L A.n1 hr.V hr.T f (i + 1) p k e1 hp
      rw [pS_seq hc, wd_seq hc]
      simp only
      rw [w1]
      obtain ⟨r, er⟩ : ∃ r, pS c R n fx f (i + 1) p st = r := ⟨_, rfl⟩
      rw [er] at a1 a2 a3 ⊢
      obtain ⟨v1, v2, _⟩ := wd_ok (c := c) A.L A.n1 a1.V a1.T f (i + 1) p k e1 hp
      obtain ⟨b1, b2, b3⟩ := ih k _ j r e2 (A.lt hp v2) a1
      refine ⟨b1, a2.trans A b2, a3.then A a1 b3 b2 (fun e => ?_)⟩
      rw [e]; rfl
    · obtain ⟨e1, e2⟩ := wfS_inv_eq h hc
      obtain ⟨a1, a2, a3⟩ := condW_ok (c := c) A.L A.n1 hr.V hp e2
      obtain ⟨k, ek, hk⟩ := isVar_nat e1
      rw [pS_eq hc, wd_eq hc, ek]
      obtain ⟨h1, h2, h3, _, _⟩ := atLP_low (V' := st.V) (fx := fx) (k := i) A hr (v := ((k : Int)).toNat) hk a2
      exact ⟨h1, h2, h3⟩
    · obtain ⟨k, m, e1, e2, e3⟩ := wfS_inv_i h hc
      obtain ⟨a1, a2, a3⟩ := condW_ok (c := c) A.L A.n1 hr.V hp e1
      rw [pS_i hc, wd_i hc]
      simp only
      rw [a1]
      obtain ⟨w1, w2, _⟩ := wd_ok (c := c) A.L A.n1 hr.V hr.T f k _ m e2 a2
      rw [w1]
      obtain ⟨b1, b2, b3⟩ := ih k _ m st e2 a2 hr
      obtain ⟨d1, d2, d3⟩ := ih m _ j _ e3 a2 b1
      refine ⟨d1, b2.trans A d2, b3.then A b1 d3 d2 (fun e => ?_)⟩
      rw [e]; rfl
    · obtain ⟨k, e1, e2⟩ := wfS_inv_w h hc
      obtain ⟨a1, a2, a3⟩ := condW_ok (c := c) A.L A.n1 hr.V hp e1
      rw [pS_w hc, wd_w hc]
      simp only
      rw [a1]
      have hrr := A.lt a2 a3
      have hd := wd_ok (c := c) A.L A.n1 hr.V hr.T f k _ j e2 hrr
      exact ih k _ j st e2 (A.lt hrr hd.2.1) hr
    · obtain ⟨e1, e2, rfl⟩ := wfS_inv_r h hc
      obtain ⟨d, ed, hd⟩ := isDB_nat e1
      obtain ⟨k, ek, hk⟩ := isVar_nat e2
      rw [pS_r hc, wd_r hc, ed, ek]
      obtain ⟨h1, h2, h3, h4, h5, h6⟩ := demP_low (fx := fx) (a := p) (k := i) (tg := .lev ((d : Int)).toNat) (b := ((d : Int)).toNat) A hr rfl (fun h => h)
      obtain ⟨g1, g2, g3, _, _⟩ := atLP_low (V' := st.V) (fx := fx) (k := i) A h1 (v := ((k : Int)).toNat) hk (A.lt hp hd)
      exact ⟨g1, h2.trans A g2, h3.then A h1 g3 g2 (fun _ => rfl)⟩
    · obtain ⟨e1, e2⟩ := wfS_inv_o h hc
      obtain ⟨d, ed, hd⟩ := isDB_nat e1
      rw [pS_o hc, wd_o hc, ed]
      obtain ⟨h1, h2, h3, h4, h5, h6⟩ := demP_low (fx := fx) (a := (condW c R n st.V f (i + 2) p).2.1) (k := i) (tg := .lev ((d : Int)).toNat) (b := ((d : Int)).toNat) A hr rfl (fun h => h)
      exact ⟨h1, h2, h3⟩
    · obtain ⟨e1, rfl⟩ := wfS_inv_c h hc
      obtain ⟨d, ed, hd⟩ := isDB_nat e1
      rw [pS_c hc, wd_c hc, ed]
      obtain ⟨h1, h2, h3, _, _⟩ := raX_low (X' := st.X) (fx := fx) (k := i) A hr (v := ((d : Int)).toNat) hd hp
      exact ⟨h1, h2, h3⟩

/-- The program's look stays below what fits. -/
theorem pS_under (A : Lat n R) : ∀ (f i p q j : Nat) (st : WS), wfS c nv n np f i = (j, false) → p < n → InR n nv np st → Bel R n nv st.V V' → Bel R n np st.X X' → Bel R n np st.T T' → Le R n p q →
    Sat R n fx V' X' (wd c R n V' T' f i q).2.2 → Bel R n nv (pS c R n fx f i p st).V V' ∧ Bel R n np (pS c R n fx f i p st).X X' := by
  intro f
  induction f with
  | zero => intro i p q j st h; simp [wfS] at h
  | succ f ih =>
    intro i p q j st h hp hr hV hX hT hpq
    have hV' : ∀ k, k < nv → V' k < n := fun k hk => (hV k hk).2.2
    have hT' : ∀ k, k < np → T' k < n := fun k hk => (hT k hk).2.2
    rcases wfS_letter h with hc | hc | hc | hc | hc | hc | hc | hc
    · rw [pS_plain hc]; exact fun _ => ⟨hV, hX⟩
    · obtain ⟨k, e1, e2⟩ := wfS_inv_seq h hc
      obtain ⟨a1, a2, a3⟩ := pS_low (fx := fx) (c := c) A f (i + 1) p k st e1 hp hr
      have w0 := (wd_ok (c := c) A.L A.n1 hr.V hr.T f (i + 1) p k e1 hp).1
      have w1 := (wd_ok (c := c) A.L A.n1 hV' hT' f (i + 1) q k e1 hpq.2.2).1
      rw [pS_seq hc, wd_seq hc, w0]
      simp only
      rw [w1]
      intro hs
      obtain ⟨b1, b2⟩ := ih (i + 1) p q k st e1 hp hr hV hX hT hpq hs.fst
      have hT1 : Bel R n np (pS c R n fx f (i + 1) p st).T T' := by rw [a2.T]; exact hT
      have hm := (wd_mono (c := c) A b1 hT1 f (i + 1) p q k e1 hpq).2.2.1
      exact ih k _ _ j _ e2 (A.lt hp hm.2.1) a1 b1 b2 hT1 (A.mono hpq hm) hs.snd
    · obtain ⟨e1, e2⟩ := wfS_inv_eq h hc
      obtain ⟨a1, a2, a3⟩ := condW_ok (c := c) A.L A.n1 hr.V hp e2
      obtain ⟨m1, m2, m3, m4⟩ := condW_mono (cs := c) A hV e2 hpq
      obtain ⟨k, ek, hk⟩ := isVar_nat e1
      rw [pS_eq hc, wd_eq hc, ek]
      intro hs
      obtain ⟨_, _, _, b3, b4⟩ := atLP_low (V' := V') (fx := fx) (k := i) A hr (v := ((k : Int)).toNat) hk a2
      exact ⟨b3 hV (fun hf => A.trans m3 (hs.get hf)), by rw [b4]; exact hX⟩
    · obtain ⟨k, m, e1, e2, e3⟩ := wfS_inv_i h hc
      obtain ⟨a1, a2, a3⟩ := condW_ok (c := c) A.L A.n1 hr.V hp e1
      obtain ⟨m1, m2, m3, m4⟩ := condW_mono (cs := c) A hV e1 hpq
      rw [pS_i hc, wd_i hc]
      simp only
      rw [m1, m2]
      obtain ⟨b1, b2, b3⟩ := pS_low (fx := fx) (c := c) A f k _ m st e2 a2 hr
      have w0 := (wd_ok (c := c) A.L A.n1 hr.V hr.T f k _ m e2 a2).1
      have w1 := (wd_ok (c := c) A.L A.n1 hV' hT' f k _ m e2 m3.2.2).1
      rw [w0, w1]
      intro hs
      obtain ⟨d1, d2⟩ := ih k _ _ m st e2 a2 hr hV hX hT m3 hs.fst
      exact ih m _ _ j _ e3 a2 b1 d1 d2 (by rw [b2.T]; exact hT) m3 hs.snd
    · obtain ⟨k, e1, e2⟩ := wfS_inv_w h hc
      obtain ⟨a1, a2, a3⟩ := condW_ok (c := c) A.L A.n1 hr.V hp e1
      obtain ⟨m1, m2, m3, m4⟩ := condW_mono (cs := c) A hV e1 hpq
      rw [pS_w hc, wd_w hc]
      simp only
      rw [m1, m2]
      have hrr := A.mono m3 m4
      obtain ⟨w1, w2, w3, w4⟩ := wd_mono (c := c) A hV hT f k _ _ j e2 hrr
      intro hs
      exact ih k _ _ j st e2 (A.lt hrr.2.1 w3.2.1) hr hV hX hT (A.mono hrr w3) hs
    · obtain ⟨e1, e2, rfl⟩ := wfS_inv_r h hc
      obtain ⟨d, ed, hd⟩ := isDB_nat e1
      obtain ⟨k, ek, hk⟩ := isVar_nat e2
      rw [pS_r hc, wd_r hc, ed, ek]
      intro hs
      obtain ⟨h1, h2, h3, h4, h5, h6⟩ := demP_low (fx := fx) (a := p) (k := i) (tg := .lev ((d : Int)).toNat) (b := ((d : Int)).toNat) A hr rfl (fun h => h)
      obtain ⟨_, _, _, b3, b4⟩ := atLP_low (V' := V') (fx := fx) (k := i) A h1 (v := ((k : Int)).toNat) hk (A.lt hp hd)
      have hm := A.mono hpq (A.refl hd)
      refine ⟨b3 (by rw [h4]; exact hV) (fun hf => A.trans hm (hs ⟨i, jn R n q d, .var k⟩ (by simp) hf)), ?_⟩
      have e4 : (atLP R n fx (demP R st p ((d : Int)).toNat i) ((k : Int)).toNat (jn R n p ((d : Int)).toNat) i).X = (demP R st p ((d : Int)).toNat i).X := b4
      rw [e4, h5]; exact hX
    · obtain ⟨e1, e2⟩ := wfS_inv_o h hc
      rw [pS_o hc, demP_put]
      exact fun _ => ⟨hV, hX⟩
    · obtain ⟨e1, rfl⟩ := wfS_inv_c h hc
      obtain ⟨d, ed, hd⟩ := isDB_nat e1
      rw [pS_c hc, wd_c hc, ed]
      intro hs
      obtain ⟨_, _, _, b3, b4⟩ := raX_low (X' := X') (fx := fx) (k := i) A hr (v := ((d : Int)).toNat) hd hp
      exact ⟨by rw [b4]; exact hV, b3 hX (A.trans hpq (hs.get trivial))⟩
end

end Go.Proofs.YtfcflnnleadpkaaGreat
