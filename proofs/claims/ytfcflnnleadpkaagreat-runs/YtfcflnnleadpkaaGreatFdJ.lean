import Derived.Test.YtfcflnnleadpkaaGreatLfJ
import Derived.Test.YtfcflnnleadpkaaGreatFcJ
namespace Go.Proofs.YtfcflnnleadpkaaGreat
open Go.RowKit
variable {D : FD} {w : World} {st : WS}

theorem Fl.allocd (h : Fl D w st) (X : Obj) : Fl D (w.alloc X) st := h.below ((Below.refl _ _).alloc (Nat.le_refl _) _)
theorem below_al {w w' : World} {B : Nat} (h : Below B w w') (hB : B ≤ w'.heap.size) (X : Obj) : Below B w (w'.alloc X) := h.alloc hB X

set_option maxHeartbeats 1000000 in
set_option maxRecDepth 100000 in
theorem fUnder (O : FOk D) (hr : InR D.n D.nv D.np st) {f i j p : Nat} (H : ExOk D st f) (h : Fl D w st) (hsc : scE (bt D.s) D.nv f i = (j, false)) (htb : tbE (bt D.s) D.nv D.T f i) (hp : p < D.n) :
    Calls Tryz.prog 101 #[.pointer (some ⟨D.b, 0, none⟩), .int .i64 (i : Int), .int .i64 (p : Int)] w fun e w' => e = .returned (.int .i64 ((condW (bt D.s) D.R D.n st.V f i p).2.1 : Nat)) ∧ Below w.heap.size w w' := by
  have HC := hide (show (condW (bt D.s) D.R D.n st.V f i p).2.1 = jn D.R D.n p (labE (bt D.s) D.R D.n st.V f i).2.1 from rfl)
  have HX := hide H
  clear H
  obtain ⟨_, a2, a3⟩ := labE_ok (c := bt D.s) O.A.L O.A.n1 hr.V _ _ _ hsc
  go_enter Tryz.func101, Tryz.ntmps101
  go_wp2_with fail
  refine (unhide HX w i j h hsc htb).mono ?_
  rintro e w1 ⟨rfl, hb⟩
  have HF := hide (h.below hb)
  have HB := hide (below_al hb hb.size)
  clear hb hsc htb h
  generalize labE (bt D.s) D.R D.n st.V f i = r at *
  obtain ⟨x1, x2, x3, x4⟩ := r
  have hx2 : x2 < D.n := a2
  unfold exA
  simp only
  go_wp2_with fail
  go_region_with (go_at_call 105; refine (fJoin O.A O.n8 ((unhide HF).allocd _).drew hp hx2).mono ?_; rintro e w' ⟨rfl, rfl⟩)
  all_goals
    go_wp2_with fail
    go_ret
    exact ⟨by rw [unhide HC]; rfl, (unhide HB _).drew⟩

set_option maxHeartbeats 1000000 in
set_option maxRecDepth 100000 in
theorem fDiv (O : FOk D) (hr : InR D.n D.nv D.np st) {f i j p : Nat} (H : ExOk D st f) (h : Fl D w st) (hsc : scE (bt D.s) D.nv f i = (j, false)) (htb : tbE (bt D.s) D.nv D.T f i) (hp : p < D.n) :
    Calls Tryz.prog 106 #[.pointer (some ⟨D.b, 0, none⟩), .int .i64 (i : Int), .int .i64 (p : Int)] w fun e w' => e = .returned (.int .i64 ((condW (bt D.s) D.R D.n st.V f i p).2.2 : Nat)) ∧ Below w.heap.size w w' := by
  have HC := hide (show (condW (bt D.s) D.R D.n st.V f i p).2.2 = if (labE (bt D.s) D.R D.n st.V f i).2.2.2 = true then jn D.R D.n p (labE (bt D.s) D.R D.n st.V f i).2.2.1 else bot D.R D.n from rfl)
  have HX := hide H
  clear H
  obtain ⟨_, a2, a3⟩ := labE_ok (c := bt D.s) O.A.L O.A.n1 hr.V _ _ _ hsc
  go_enter Tryz.func106, Tryz.ntmps106
  go_wp2_with fail
  refine (unhide HX w i j h hsc htb).mono ?_
  rintro e w1 ⟨rfl, hb⟩
  have HF := hide (h.below hb)
  have HB := hide (below_al hb hb.size)
  have k1 := (unhide HF).bo O.A
  have hbz : D.b < w1.heap.size := (Array.getElem?_eq_some_iff.1 (unhide HF)).1
  clear hb hsc htb h
  generalize labE (bt D.s) D.R D.n st.V f i = r at *
  obtain ⟨x1, x2, x3, x4⟩ := r
  have hx3 : x3 < D.n := a3
  unfold exA
  simp only
  cases x4
  · go_wp2_with fail
    go_ret
    exact ⟨by rw [unhide HC]; rfl, unhide HB _⟩
  · go_wp2_with fail
    go_region_with (go_at_call 105; refine (fJoin O.A O.n8 ((unhide HF).allocd _).drew hp hx3).mono ?_; rintro e w' ⟨rfl, rfl⟩)
    all_goals
      go_wp2_with fail
      go_ret
      exact ⟨by rw [unhide HC]; rfl, (unhide HB _).drew⟩

set_option maxHeartbeats 1000000 in
set_option maxRecDepth 100000 in
theorem fInside (O : FOk D) (hr : InR D.n D.nv D.np st) {f i j p : Nat} (H : ExOk D st f) (h : Fl D w st) (hsc : scE (bt D.s) D.nv f i = (j, false)) (htb : tbE (bt D.s) D.nv D.T f i) (hp : p < D.n) :
    Calls Tryz.prog 103 #[.pointer (some ⟨D.b, 0, none⟩), .int .i64 (i : Int), .int .i64 (p : Int)] w fun e w' => e = .returned (.int .i64 (jn D.R D.n (condW (bt D.s) D.R D.n st.V f i p).2.1 (condW (bt D.s) D.R D.n st.V f i p).2.2 : Nat)) ∧ Below w.heap.size w w' := by
  obtain ⟨_, a2, a3⟩ := condW_ok (c := bt D.s) O.A.L O.A.n1 hr.V hp hsc
  have HX := hide H
  have HS := hide hsc
  have HT := hide htb
  clear H hsc htb
  go_enter Tryz.func103, Tryz.ntmps103
  go_wp2_with fail
  refine (fUnder O hr (unhide HX) h (unhide HS) (unhide HT) hp).mono ?_
  rintro e w1 ⟨rfl, hb⟩
  have HF := hide (h.below hb)
  have HB := hide hb
  clear hb
  generalize hx : (condW (bt D.s) D.R D.n st.V f i p).2.1 = x at *
  have HH := hide hx
  clear hx
  go_wp2_with fail
  go_region_with (first
    | (go_at_call 106; refine (fDiv O hr (unhide HX) (unhide HF).drew (unhide HS) (unhide HT) hp).mono ?_; rintro e w2 ⟨rfl, hb2⟩; have HF2 := hide ((unhide HF).drew.below hb2); have HB2 := hide ((unhide HB).drew.trans (hb2.mono (unhide HB).size)); clear hb2)
    | (go_at_call 105; refine (fJoin O.A O.n8 (unhide HF2) a2 a3).mono ?_; rintro e w' ⟨rfl, rfl⟩))
  all_goals
    go_wp2_with fail
    go_ret
    exact ⟨by rw [unhide HH]; rfl, unhide HB2⟩

end Go.Proofs.YtfcflnnleadpkaaGreat

namespace Go.Proofs.YtfcflnnleadpkaaGreat
open Go.RowKit
variable {D : FD} {w : World} {st : WS}

def ThOk (D : FD) (st : WS) (f : Nat) : Prop := ∀ (w : World) (i p j : Nat), Fl D w st → wfS (bt D.s) D.nv D.n D.np f i = (j, false) → tbS (bt D.s) D.nv D.n D.np D.T f i → p < D.n →
    Calls Tryz.prog 85 #[.pointer (some ⟨D.b, 0, none⟩), .int .i64 (i : Int), .int .i64 (p : Int)] w fun e w' => e = .returned (.int .i64 ((wd (bt D.s) D.R D.n st.V st.T f i p).2.1 : Nat)) ∧ Below w.heap.size w w'

set_option maxHeartbeats 1000000 in
set_option maxRecDepth 100000 in
theorem fBehind (O : FOk D) (hr : InR D.n D.nv D.np st) {f i j p : Nat} (H : ThOk D st f) (h : Fl D w st) (hw : wfS (bt D.s) D.nv D.n D.np f i = (j, false)) (htb : tbS (bt D.s) D.nv D.n D.np D.T f i) (hp : p < D.n) :
    Calls Tryz.prog 100 #[.pointer (some ⟨D.b, 0, none⟩), .int .i64 (i : Int), .int .i64 (p : Int)] w fun e w' => e = .returned (.int .i64 (jn D.R D.n p (wd (bt D.s) D.R D.n st.V st.T f i p).2.1 : Nat)) ∧ Below w.heap.size w w' := by
  have a2 := (wd_ok (c := bt D.s) O.A.L O.A.n1 hr.V hr.T f i p j hw hp).2.1
  have HX := hide H
  have HS := hide hw
  have HT := hide htb
  have HF := hide h
  clear H hw htb h
  go_enter Tryz.func100, Tryz.ntmps100
  go_wp2_with fail
  go_region_with (first
    | (go_at_call 85; refine (unhide HX _ _ _ _ (unhide HF).drew (unhide HS) (unhide HT) hp).mono ?_; rintro e w2 ⟨rfl, hb2⟩; have HF2 := hide ((unhide HF).drew.below hb2); have HB2 := hide (((Below.refl _ _).drew : Below w.heap.size w w.drew).trans hb2); clear hb2)
    | (go_at_call 105; refine (fJoin O.A O.n8 (unhide HF2) hp a2).mono ?_; rintro e w' ⟨rfl, rfl⟩))
  all_goals
    go_wp2_with fail
    go_ret
    exact ⟨rfl, unhide HB2⟩

theorem Lat.comm {n : Nat} {R : Nat → Nat → Bool} (A : Lat n R) {a b : Nat} (ha : a < n) (hb : b < n) : jn R n a b = jn R n b a :=
  A.anti (A.sup (A.r hb ha) (A.l hb ha)) (A.sup (A.r ha hb) (A.l ha hb))
theorem fUnder_at (O : FOk D) (hr : InR D.n D.nv D.np st) {f i j p : Nat} {x : Int} (hx : x = (i : Int)) (H : ExOk D st f) (h : Fl D w st) (hsc : scE (bt D.s) D.nv f i = (j, false)) (htb : tbE (bt D.s) D.nv D.T f i) (hp : p < D.n) :
    Calls Tryz.prog 101 #[.pointer (some ⟨D.b, 0, none⟩), .int .i64 x, .int .i64 (p : Int)] w fun e w' => e = .returned (.int .i64 ((condW (bt D.s) D.R D.n st.V f i p).2.1 : Nat)) ∧ Below w.heap.size w w' := by
  subst hx; exact fUnder O hr H h hsc htb hp
theorem fDiv_at (O : FOk D) (hr : InR D.n D.nv D.np st) {f i j p : Nat} {x : Int} (hx : x = (i : Int)) (H : ExOk D st f) (h : Fl D w st) (hsc : scE (bt D.s) D.nv f i = (j, false)) (htb : tbE (bt D.s) D.nv D.T f i) (hp : p < D.n) :
    Calls Tryz.prog 106 #[.pointer (some ⟨D.b, 0, none⟩), .int .i64 x, .int .i64 (p : Int)] w fun e w' => e = .returned (.int .i64 ((condW (bt D.s) D.R D.n st.V f i p).2.2 : Nat)) ∧ Below w.heap.size w w' := by
  subst hx; exact fDiv O hr H h hsc htb hp
theorem fInside_at (O : FOk D) (hr : InR D.n D.nv D.np st) {f i j p : Nat} {x : Int} (hx : x = (i : Int)) (H : ExOk D st f) (h : Fl D w st) (hsc : scE (bt D.s) D.nv f i = (j, false)) (htb : tbE (bt D.s) D.nv D.T f i) (hp : p < D.n) :
    Calls Tryz.prog 103 #[.pointer (some ⟨D.b, 0, none⟩), .int .i64 x, .int .i64 (p : Int)] w fun e w' => e = .returned (.int .i64 (jn D.R D.n (condW (bt D.s) D.R D.n st.V f i p).2.1 (condW (bt D.s) D.R D.n st.V f i p).2.2 : Nat)) ∧ Below w.heap.size w w' := by
  subst hx; exact fInside O hr H h hsc htb hp
theorem fBehind_at (O : FOk D) (hr : InR D.n D.nv D.np st) {f i j p : Nat} {x : Int} (hx : x = (i : Int)) (H : ThOk D st f) (h : Fl D w st) (hw : wfS (bt D.s) D.nv D.n D.np f i = (j, false)) (htb : tbS (bt D.s) D.nv D.n D.np D.T f i) (hp : p < D.n) :
    Calls Tryz.prog 100 #[.pointer (some ⟨D.b, 0, none⟩), .int .i64 x, .int .i64 (p : Int)] w fun e w' => e = .returned (.int .i64 (jn D.R D.n p (wd (bt D.s) D.R D.n st.V st.T f i p).2.1 : Nat)) ∧ Below w.heap.size w w' := by
  subst hx; exact fBehind O hr H h hw htb hp
theorem ThOk.at {f i j p : Nat} (H : ThOk D st f) {x : Int} (hx : x = (i : Int)) (h : Fl D w st) (hw : wfS (bt D.s) D.nv D.n D.np f i = (j, false)) (htb : tbS (bt D.s) D.nv D.n D.np D.T f i) (hp : p < D.n) :
    Calls Tryz.prog 85 #[.pointer (some ⟨D.b, 0, none⟩), .int .i64 x, .int .i64 (p : Int)] w fun e w' => e = .returned (.int .i64 ((wd (bt D.s) D.R D.n st.V st.T f i p).2.1 : Nat)) ∧ Below w.heap.size w w' := by
  subst hx; exact H w i p j h hw htb hp
theorem pDigit_at (w : World) (b o k : Nat) (s : ByteArray) {x : Int} {d : Nat} (hx : x = (k : Int)) (hs : w.cell? ⟨b, o + 2, none⟩ = some (.string s)) (hk : k < s.size) (hd : bt s k - 48 = (d : Int)) :
    Calls Tryz.prog 82 #[.pointer (some ⟨b, o, none⟩), .int .i64 x] w fun e w' => e = .returned (.int .i64 (d : Int)) ∧ w' = w := by
  subst hx
  rw [← hd]
  exact pDigit w b o k s hs hk (by omega)
theorem pVar_at (w : World) (b o k : Nat) (s : ByteArray) {x : Int} {d : Nat} (hx : x = (k : Int)) (hs : w.cell? ⟨b, o + 2, none⟩ = some (.string s)) (hk : k < s.size) (hd : bt s k - 97 = (d : Int)) :
    Calls Tryz.prog 88 #[.pointer (some ⟨b, o, none⟩), .int .i64 x] w fun e w' => e = .returned (.int .i64 (d : Int)) ∧ w' = w := by
  subst hx
  rw [← hd]
  exact pVar w b o k s hs hk (by omega)
/-- Beside the flow: the parts of a statement, in a block of their own. -/
structure PB (D : FD) (st : WS) (w wk : World) (a b c : Int) : Prop where
  fl : Fl D wk st
  bel : Below w.heap.size w wk
  pb : wk.heap[w.heap.size]? = some (.cells #[.int .i64 a, .int .i64 b, .int .i64 c] 48 (0, 0))
theorem PB.start {a b c : Int} (h : Fl D w st) : PB D st w (w.alloc (.cells #[.int .i64 a, .int .i64 b, .int .i64 c] 48)) a b c := ⟨h.allocd _, (Below.refl _ _).alloc (Nat.le_refl _) _, heap_alloc_last w _⟩
theorem PB.lt {wk : World} {a b c : Int} (h : PB D st w wk a b c) : w.heap.size < wk.heap.size := (Array.getElem?_eq_some_iff.1 h.pb).1
theorem PB.next {wk w' : World} {a b c : Int} (h : PB D st w wk a b c) (hb : Below wk.heap.size wk w') : PB D st w w' a b c := ⟨h.fl.below hb, h.bel.trans (hb.mono (Nat.le_of_lt h.lt)), (hb.block _ h.lt).trans h.pb⟩
theorem PB.drew {wk : World} {a b c : Int} (h : PB D st w wk a b c) : PB D st w wk.drew a b c := ⟨h.fl, h.bel.drew, h.pb⟩
theorem PB.c0 {wk : World} {a b c : Int} (h : PB D st w wk a b c) : wk.cell? ⟨w.heap.size, 0, none⟩ = some (.int .i64 a) := by rw [cell_of_row wk _ 0 _ _ _ h.pb]; rfl
theorem PB.c1 {wk : World} {a b c : Int} (h : PB D st w wk a b c) : wk.cell? ⟨w.heap.size, 1, none⟩ = some (.int .i64 b) := by rw [cell_of_row wk _ 1 _ _ _ h.pb]; rfl
theorem PB.c2 {wk : World} {a b c : Int} (h : PB D st w wk a b c) : wk.cell? ⟨w.heap.size, 2, none⟩ = some (.int .i64 c) := by rw [cell_of_row wk _ 2 _ _ _ h.pb]; rfl

end Go.Proofs.YtfcflnnleadpkaaGreat

namespace Go.Proofs.YtfcflnnleadpkaaGreat
open Go.RowKit
variable {D : FD} {w : World} {st : WS}

set_option maxHeartbeats 1000000 in
set_option maxRecDepth 100000 in
theorem throw_dot (O : FOk D) {f i j p : Nat} (h : Fl D w st) (hw : wfS (bt D.s) D.nv D.n D.np (f + 1) i = (j, false)) (hc : bt D.s i = 46) :
    Calls Tryz.prog 85 #[.pointer (some ⟨D.b, 0, none⟩), .int .i64 (i : Int), .int .i64 (p : Int)] w fun e w' => e = .returned (.int .i64 ((wd (bt D.s) D.R D.n st.V st.T (f + 1) i p).2.1 : Nat)) ∧ Below w.heap.size w w' := by
  have hi : i < D.s.size := bt_lt (by rw [hc]; omega)
  have hbq := bt_eq D.s i hi
  rw [hc] at hbq
  have hi' : (i : Int) < (D.s.size : Int) := by omega
  have hi3 : (i : Int) < 300 := by have := O.sz; omega
  have p0 := h.pt (i := i) (k := 0) (by omega) (by omega)
  have p1 := h.pt (i := i) (k := 1) (by omega) (by omega)
  have p2 := h.pt (i := i) (k := 2) (by omega) (by omega)
  simp only [Nat.add_zero] at p0
  have k2 := h.tx
  have k1 := h.bo O.A
  have hbz : D.b < w.heap.size := (Array.getElem?_eq_some_iff.1 h).1
  have HE := hide (congrArg (fun x => x.2.1) (wd_dot (R := D.R) (n := D.n) (V := st.V) (T := st.T) (f := f) (p := p) hc))
  have _ := hw
  have HB := hide (fun X : Obj => ((Below.refl _ _).alloc (Nat.le_refl _) X : Below w.heap.size w (w.alloc X)))
  clear hw
  go_enter Tryz.func85, Tryz.ntmps85
  go_wp2_with fail
  go_ret
  exact ⟨by rw [unhide HE]; rfl, unhide HB _⟩

set_option maxHeartbeats 1000000 in
set_option maxRecDepth 100000 in
theorem throw_x (O : FOk D) {f i j p : Nat} (h : Fl D w st) (hw : wfS (bt D.s) D.nv D.n D.np (f + 1) i = (j, false)) (hc : bt D.s i = 120) :
    Calls Tryz.prog 85 #[.pointer (some ⟨D.b, 0, none⟩), .int .i64 (i : Int), .int .i64 (p : Int)] w fun e w' => e = .returned (.int .i64 ((wd (bt D.s) D.R D.n st.V st.T (f + 1) i p).2.1 : Nat)) ∧ Below w.heap.size w w' := by
  have hi : i < D.s.size := bt_lt (by rw [hc]; omega)
  have hbq := bt_eq D.s i hi
  rw [hc] at hbq
  have hi' : (i : Int) < (D.s.size : Int) := by omega
  have hi3 : (i : Int) < 300 := by have := O.sz; omega
  have p0 := h.pt (i := i) (k := 0) (by omega) (by omega)
  have p1 := h.pt (i := i) (k := 1) (by omega) (by omega)
  have p2 := h.pt (i := i) (k := 2) (by omega) (by omega)
  simp only [Nat.add_zero] at p0
  have k2 := h.tx
  have k1 := h.bo O.A
  have hbz : D.b < w.heap.size := (Array.getElem?_eq_some_iff.1 h).1
  have HE := hide (congrArg (fun x => x.2.1) (wd_x (R := D.R) (n := D.n) (V := st.V) (T := st.T) (f := f) (p := p) hc))
  have _ := hw
  have HB := hide (fun X : Obj => ((Below.refl _ _).alloc (Nat.le_refl _) X : Below w.heap.size w (w.alloc X)))
  clear hw
  go_enter Tryz.func85, Tryz.ntmps85
  go_wp2_with fail
  go_ret
  exact ⟨by rw [unhide HE]; rfl, unhide HB _⟩

set_option maxHeartbeats 1000000 in
set_option maxRecDepth 100000 in
theorem throw_eq (O : FOk D) (hr : InR D.n D.nv D.np st) {f i j p : Nat} (HX : ∀ f, ExOk D st f) (h : Fl D w st) (hw : wfS (bt D.s) D.nv D.n D.np (f + 1) i = (j, false)) (htb : tbS (bt D.s) D.nv D.n D.np D.T (f + 1) i) (hp : p < D.n) (hc : bt D.s i = 61) :
    Calls Tryz.prog 85 #[.pointer (some ⟨D.b, 0, none⟩), .int .i64 (i : Int), .int .i64 (p : Int)] w fun e w' => e = .returned (.int .i64 ((wd (bt D.s) D.R D.n st.V st.T (f + 1) i p).2.1 : Nat)) ∧ Below w.heap.size w w' := by
  have hi : i < D.s.size := bt_lt (by rw [hc]; omega)
  have hbq := bt_eq D.s i hi
  rw [hc] at hbq
  have hi' : (i : Int) < (D.s.size : Int) := by omega
  have hi3 : (i : Int) < 300 := by have := O.sz; omega
  have p0 := h.pt (i := i) (k := 0) (by omega) (by omega)
  have p1 := h.pt (i := i) (k := 1) (by omega) (by omega)
  have p2 := h.pt (i := i) (k := 2) (by omega) (by omega)
  simp only [Nat.add_zero] at p0
  have k2 := h.tx
  have k1 := h.bo O.A
  have hbz : D.b < w.heap.size := (Array.getElem?_eq_some_iff.1 h).1
  obtain ⟨e1, e2⟩ := wfS_inv_eq hw hc
  obtain ⟨t0, t1, t2⟩ := htb.2.1 hc
  have HE := hide (congrArg (fun x => x.2.1) (wd_eq (R := D.R) (n := D.n) (V := st.V) (T := st.T) (f := f) (p := p) hc))
  rw [t0] at p0
  rw [t1] at p1
  have HXX := hide HX
  have HT := hide t2
  have HS := hide e2
  clear hw htb t0 t1 t2 e2 HX
  go_enter Tryz.func85, Tryz.ntmps85
  go_wp2_with fail
  refine (fDiv_at O hr (i := i + 2) (by omega) (unhide HXX f) (PB.start h).fl (unhide HS) (unhide HT) hp).mono ?_
  rintro e w2 ⟨rfl, hb2⟩
  have HP2 := hide ((PB.start h).next hb2)
  clear hb2
  go_wp2_with fail
  go_ret
  exact ⟨by rw [unhide HE]; rfl, (unhide HP2).bel⟩

set_option maxHeartbeats 1000000 in
set_option maxRecDepth 100000 in
theorem throw_o (O : FOk D) (hr : InR D.n D.nv D.np st) {f i j p : Nat} (HX : ∀ f, ExOk D st f) (h : Fl D w st) (hw : wfS (bt D.s) D.nv D.n D.np (f + 1) i = (j, false)) (htb : tbS (bt D.s) D.nv D.n D.np D.T (f + 1) i) (hp : p < D.n) (hc : bt D.s i = 111) :
    Calls Tryz.prog 85 #[.pointer (some ⟨D.b, 0, none⟩), .int .i64 (i : Int), .int .i64 (p : Int)] w fun e w' => e = .returned (.int .i64 ((wd (bt D.s) D.R D.n st.V st.T (f + 1) i p).2.1 : Nat)) ∧ Below w.heap.size w w' := by
  have hi : i < D.s.size := bt_lt (by rw [hc]; omega)
  have hbq := bt_eq D.s i hi
  rw [hc] at hbq
  have hi' : (i : Int) < (D.s.size : Int) := by omega
  have hi3 : (i : Int) < 300 := by have := O.sz; omega
  have p0 := h.pt (i := i) (k := 0) (by omega) (by omega)
  have p1 := h.pt (i := i) (k := 1) (by omega) (by omega)
  have p2 := h.pt (i := i) (k := 2) (by omega) (by omega)
  simp only [Nat.add_zero] at p0
  have k2 := h.tx
  have k1 := h.bo O.A
  have hbz : D.b < w.heap.size := (Array.getElem?_eq_some_iff.1 h).1
  obtain ⟨e1, e2⟩ := wfS_inv_o hw hc
  obtain ⟨t0, t1, t2⟩ := htb.2.2.2.2.2.1 hc
  have HE := hide (congrArg (fun x => x.2.1) (wd_o (R := D.R) (n := D.n) (V := st.V) (T := st.T) (f := f) (p := p) hc))
  rw [t0] at p0
  rw [t1] at p1
  have HXX := hide HX
  have HT := hide t2
  have HS := hide e2
  clear hw htb t0 t1 t2 e2 HX
  go_enter Tryz.func85, Tryz.ntmps85
  go_wp2_with fail
  refine (fDiv_at O hr (i := i + 2) (by omega) (unhide HXX f) (PB.start h).fl (unhide HS) (unhide HT) hp).mono ?_
  rintro e w2 ⟨rfl, hb2⟩
  have HP2 := hide ((PB.start h).next hb2)
  clear hb2
  go_wp2_with fail
  go_ret
  exact ⟨by rw [unhide HE]; rfl, (unhide HP2).bel⟩

set_option maxHeartbeats 1000000 in
set_option maxRecDepth 100000 in
theorem throw_seq (O : FOk D) (hr : InR D.n D.nv D.np st) {f i j p : Nat} (TH : ThOk D st f) (h : Fl D w st) (hw : wfS (bt D.s) D.nv D.n D.np (f + 1) i = (j, false)) (htb : tbS (bt D.s) D.nv D.n D.np D.T (f + 1) i) (hp : p < D.n) (hc : bt D.s i = 44) :
    Calls Tryz.prog 85 #[.pointer (some ⟨D.b, 0, none⟩), .int .i64 (i : Int), .int .i64 (p : Int)] w fun e w' => e = .returned (.int .i64 ((wd (bt D.s) D.R D.n st.V st.T (f + 1) i p).2.1 : Nat)) ∧ Below w.heap.size w w' := by
  have hi : i < D.s.size := bt_lt (by rw [hc]; omega)
  have hbq := bt_eq D.s i hi
  rw [hc] at hbq
  have hi' : (i : Int) < (D.s.size : Int) := by omega
  have hi3 : (i : Int) < 300 := by have := O.sz; omega
  have p0 := h.pt (i := i) (k := 0) (by omega) (by omega)
  have p1 := h.pt (i := i) (k := 1) (by omega) (by omega)
  have p2 := h.pt (i := i) (k := 2) (by omega) (by omega)
  simp only [Nat.add_zero] at p0
  have k2 := h.tx
  have k1 := h.bo O.A
  have hbz : D.b < w.heap.size := (Array.getElem?_eq_some_iff.1 h).1
  obtain ⟨k, e1, e2⟩ := wfS_inv_seq hw (Or.inl hc)
  obtain ⟨t0, t1, tb1, tb2⟩ := htb.1 (Or.inl hc)
  rw [e1] at t1 tb2
  obtain ⟨w1, a2, _⟩ := wd_ok (c := bt D.s) O.A.L O.A.n1 hr.V hr.T f (i + 1) p k e1 hp
  have HE := hide (congrArg (fun x => x.2.1) (wd_seq (R := D.R) (n := D.n) (V := st.V) (T := st.T) (f := f) (p := p) (Or.inl hc)))
  simp only at HE
  rw [if_pos hc, w1] at HE
  rw [t0] at p0
  rw [t1] at p1
  have HTH := hide TH
  have HT1 := hide tb1
  have HT2 := hide tb2
  have HS1 := hide e1
  have HS2 := hide e2
  clear hw htb t0 t1 tb1 tb2 e1 e2 TH w1
  go_enter Tryz.func85, Tryz.ntmps85
  go_wp2_with fail
  refine ((unhide HTH).at (i := i + 1) (by omega) (PB.start h).fl (unhide HS1) (unhide HT1) hp).mono ?_
  rintro e w2 ⟨rfl, hb2⟩
  have hp2 := (PB.start h).next hb2
  have HP2 := hide hp2
  have q1 := hp2.c1
  clear hb2 hp2 p0 p1 p2 k1 k2
  generalize (wd (bt D.s) D.R D.n st.V st.T f (i + 1) p).2.1 = x at *
  have hx := O.A.lt hp a2
  have b2 := (wd_ok (c := bt D.s) O.A.L O.A.n1 hr.V hr.T f k _ j (unhide HS2) hx).2.1
  go_wp2_with fail
  go_region_with (first
    | (go_at_call 105; refine (fJoin O.A O.n8 (unhide HP2).fl.drew hp a2).mono ?_; rintro e w' ⟨rfl, rfl⟩)
    | (go_at_call 85; refine ((unhide HTH).at (i := k) rfl (unhide HP2).fl.drew (unhide HS2) (unhide HT2) hx).mono ?_; rintro e w3 ⟨rfl, hb3⟩; have HP3 := hide ((unhide HP2).drew.next hb3); clear hb3))
  all_goals
    go_wp2_with fail
    refine (fJoin O.A O.n8 (unhide HP3).fl a2 b2).mono ?_
    rintro e w' ⟨rfl, rfl⟩
    go_wp2_with fail
    go_ret
    exact ⟨by rw [unhide HE]; rfl, (unhide HP3).bel⟩

set_option maxHeartbeats 1000000 in
set_option maxRecDepth 100000 in
theorem throw_t (O : FOk D) (hr : InR D.n D.nv D.np st) {f i j p : Nat} (TH : ThOk D st f) (h : Fl D w st) (hw : wfS (bt D.s) D.nv D.n D.np (f + 1) i = (j, false)) (htb : tbS (bt D.s) D.nv D.n D.np D.T (f + 1) i) (hp : p < D.n) (hc : bt D.s i = 116) :
    Calls Tryz.prog 85 #[.pointer (some ⟨D.b, 0, none⟩), .int .i64 (i : Int), .int .i64 (p : Int)] w fun e w' => e = .returned (.int .i64 ((wd (bt D.s) D.R D.n st.V st.T (f + 1) i p).2.1 : Nat)) ∧ Below w.heap.size w w' := by
  have hi : i < D.s.size := bt_lt (by rw [hc]; omega)
  have hbq := bt_eq D.s i hi
  rw [hc] at hbq
  have hi' : (i : Int) < (D.s.size : Int) := by omega
  have hi3 : (i : Int) < 300 := by have := O.sz; omega
  have p0 := h.pt (i := i) (k := 0) (by omega) (by omega)
  have p1 := h.pt (i := i) (k := 1) (by omega) (by omega)
  have p2 := h.pt (i := i) (k := 2) (by omega) (by omega)
  simp only [Nat.add_zero] at p0
  have k2 := h.tx
  have k1 := h.bo O.A
  have hbz : D.b < w.heap.size := (Array.getElem?_eq_some_iff.1 h).1
  obtain ⟨k, e1, e2⟩ := wfS_inv_seq hw (Or.inr hc)
  obtain ⟨t0, t1, tb1, tb2⟩ := htb.1 (Or.inr hc)
  rw [e1] at t1 tb2
  obtain ⟨w1, a2, _⟩ := wd_ok (c := bt D.s) O.A.L O.A.n1 hr.V hr.T f (i + 1) p k e1 hp
  have HE := hide (congrArg (fun x => x.2.1) (wd_seq (R := D.R) (n := D.n) (V := st.V) (T := st.T) (f := f) (p := p) (Or.inr hc)))
  simp only at HE
  rw [if_neg (by rw [hc]; omega), w1] at HE
  rw [t0] at p0
  rw [t1] at p1
  have HTH := hide TH
  have HT1 := hide tb1
  have HT2 := hide tb2
  have HS1 := hide e1
  have HS2 := hide e2
  clear hw htb t0 t1 tb1 tb2 e1 e2 TH w1
  go_enter Tryz.func85, Tryz.ntmps85
  go_wp2_with fail
  refine (fBehind_at O hr (i := i + 1) (by omega) (unhide HTH) (PB.start h).fl (unhide HS1) (unhide HT1) hp).mono ?_
  rintro e w2 ⟨rfl, hb2⟩
  have hp2 := (PB.start h).next hb2
  have HP2 := hide hp2
  have q1 := hp2.c1
  clear hb2 hp2 p0 p1 p2 k1 k2
  generalize (wd (bt D.s) D.R D.n st.V st.T f (i + 1) p).2.1 = x at *
  have hx := O.A.lt hp a2
  go_wp2_with fail
  refine ((unhide HTH).at (i := k) rfl (unhide HP2).fl (unhide HS2) (unhide HT2) hx).mono ?_
  rintro e w3 ⟨rfl, hb3⟩
  have HP3 := hide ((unhide HP2).next hb3)
  clear hb3
  go_wp2_with fail
  go_ret
  exact ⟨by rw [unhide HE]; rfl, (unhide HP3).bel⟩

end Go.Proofs.YtfcflnnleadpkaaGreat
