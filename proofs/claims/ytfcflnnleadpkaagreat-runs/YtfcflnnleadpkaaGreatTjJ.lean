import Derived.Test.YtfcflnnleadpkaaGreatTgJ
import Derived.Test.YtfcflnnleadpkaaGreatSjJ
namespace Go.Proofs.YtfcflnnleadpkaaGreat
open Go.RowKit
variable {E : Env} {w : World} {mute : Bool} {st : WS} {f i j p : Nat}

set_option maxHeartbeats 2000000 in
set_option maxRecDepth 100000 in
theorem wstmt_o (K : EnvOk E) (h : At E w mute st) (hr : InR E.n E.nv E.np st) (hf : wf0 E (f + 1) i = (j, false)) (hp : p < E.n) (hc : bt E.s i = 111) : Looks E (f + 1) w mute st i p := by
  unfold Looks
  obtain ⟨e1, e2⟩ := wfS_inv_o hf hc
  have hi : i < E.s.size := bt_lt (by omega)
  have hs := K.sz
  have hbq := bt_eq E.s i hi
  have hi' : (i : Int) < (E.s.size : Int) := by omega
  have hi1 := isDB_lt e1
  have hi1' : (i : Int) + 1 < (E.s.size : Int) := by omega
  have hb1 := bt_eq E.s (i + 1) hi1
  have ⟨hb0, hb9⟩ := bt_bd E.s (i + 1)
  obtain ⟨d, ed, hd⟩ := isDB_nat e1
  have hwr : IntKind.i64.wrap ((i : Int) + 1) = (i : Int) + 1 := wrap_i64_id _ (by omega) (by omega)
  have q0 : (0 : Int) ≤ (i : Int) + 1 := by omega
  have E2 := hide e2
  have HC := hide (condW_ok (c := bt E.s) K.L K.n1 hr.V hp e2)
  have HE := hide (show wk E (f + 1) mute i p st = _ from wkS_o hc)
  have HEK := hide (show (bt E.s (i + 1) - 48).toNat = d by omega)
  have hD : dgt (bt E.s (i + 1)) E.n = (d : Int) := by
    unfold dgt
    rw [e1]
    simpa using ed
  have k0 := h.cP
  have kS := h.cS
  have kO := h.cO
  have kN := h.ord.cn
  have HH := hide h
  have HO := hide h.ord
  have HR := hide hr
  rw [hc] at hbq
  clear h hr hf e1 e2 ed hc
  rw [unhide HEK] at HE
  obtain ⟨x, HX⟩ : ∃ x, Hid (condW (bt E.s) E.R E.n st.V f (i + 2) p = x) := ⟨_, rfl⟩
  simp only [unhide HX] at HC HE
  obtain ⟨x1, x2, x3⟩ := x
  go_enter Tryz.func31, Tryz.ntmps31
  go_wp2_with fail
  refine (Bottom_any _ _ _ _ _ _ _ K.n8 (unhide HO)).mono ?_
  rintro e w' ⟨rfl, rfl⟩
  go_wp2_with fail
  go_quiet ((go_at_call 29; exact Calls.quiet_of_same (digit_any _ _ _ hb0 hb9)))
  go_wp2_with fail
  rw [show (i : Int) + 2 = ((i + 2 : Nat) : Int) by omega]
  refine (wcond_any K.L K.n1 K.n8 K.sz K.nv (unhide HR) f _ (i + 2) j p ((unhide HH).drewN _) (unhide E2) hp).mono ?_
  rintro e w1 ⟨rfl, q, rfl⟩
  rw [unhide HX]
  simp only [tup3]
  go_wp2_with fail
  refine (demand_any K.S ((unhide HH).drewN _) (unhide HC).2.1 hd).mono ?_
  rintro e w3 ⟨rfl, ha, hfr⟩
  have HA := hide ha
  have HFR := hide ((Fr.drewN (Fr.refl E _) _).trans hfr)
  clear ha hfr
  go_wp2_with fail
  go_ret2
  exact ⟨by rw [unhide HE]; rfl, by rw [unhide HE]; exact ⟨unhide HA, unhide HFR⟩⟩

set_option maxHeartbeats 2000000 in
set_option maxRecDepth 100000 in
theorem wstmt_r (K : EnvOk E) (h : At E w mute st) (hr : InR E.n E.nv E.np st) (hf : wf0 E (f + 1) i = (j, false)) (hp : p < E.n) (hc : bt E.s i = 114) : Looks E (f + 1) w mute st i p := by
  unfold Looks
  obtain ⟨e1, e2, rfl⟩ := wfS_inv_r hf hc
  have hi : i < E.s.size := bt_lt (by omega)
  have hs := K.sz
  have hbq := bt_eq E.s i hi
  have hi' : (i : Int) < (E.s.size : Int) := by omega
  have hi2 := isVar_lt e2
  have hi1 : i + 1 < E.s.size := by omega
  have hi1' : (i : Int) + 1 < (E.s.size : Int) := by omega
  have hi2' : (i : Int) + 2 < (E.s.size : Int) := by omega
  have hb1 := bt_eq E.s (i + 1) hi1
  have ⟨hb0, hb9⟩ := bt_bd E.s (i + 1)
  obtain ⟨d, ed, hd⟩ := isDB_nat e1
  obtain ⟨k, ek, hk⟩ := isVar_nat e2
  have hb2 : (E.s[i + 2].toNat : Int) = (k : Int) + 97 := by have := bt_eq E.s (i + 2) hi2; omega
  have hk8 : (k : Int) ≤ 8 := by have := K.nv; omega
  have hwr : IntKind.i64.wrap ((i : Int) + 1) = (i : Int) + 1 := wrap_i64_id _ (by omega) (by omega)
  have q0 : (0 : Int) ≤ (i : Int) + 1 := by omega
  have HE := hide (show wk E (f + 1) mute i p st = _ from wkS_r hc)
  have HEK := hide (show (bt E.s (i + 1) - 48).toNat = d ∧ (bt E.s (i + 2) - 97).toNat = k by omega)
  have HJ := hide (K.L.jn_lt hp hd)
  have HRD := hide (hr.dem (R := E.R) (mute := mute) (a := p) (b := d) (k := i))
  have hD : dgt (bt E.s (i + 1)) E.n = (d : Int) := by
    unfold dgt
    rw [e1]
    simpa using ed
  have k0 := h.cP
  have kS := h.cS
  have kO := h.cO
  have kN := h.ord.cn
  have HH := hide h
  have HO := hide h.ord
  have HR := hide hr
  rw [hc] at hbq
  clear h hr hf e1 e2 ed ek hc
  rw [(unhide HEK).1, (unhide HEK).2] at HE
  go_enter Tryz.func31, Tryz.ntmps31
  go_wp2_with fail
  refine (Bottom_any _ _ _ _ _ _ _ K.n8 (unhide HO)).mono ?_
  rintro e w' ⟨rfl, rfl⟩
  go_wp2_with fail
  go_quiet ((go_at_call 29; exact Calls.quiet_of_same (digit_any _ _ _ hb0 hb9)))
  go_wp2_with fail
  refine (wjoin_any K.L K.n8 ((unhide HH).drewN _) hp hd).mono ?_
  rintro e w5 ⟨rfl, rfl⟩
  go_wp2_with fail
  refine (demand_any K.S ((unhide HH).drewN _) hp hd).mono ?_
  rintro e w3 ⟨rfl, ha, hfr⟩
  have c0 := ha.cP
  have cS := ha.cS
  have HA := hide ha
  have HFR := hide ((Fr.drewN (Fr.refl E _) _).trans hfr)
  clear ha hfr
  go_wp2_with fail
  refine (atLeast_any K.S K.L K.n8 (unhide HA) (unhide HRD) hk K.nv (unhide HJ).1).mono ?_
  rintro e w4 ⟨rfl, ha4, hfr4⟩
  have HA4 := hide ha4
  have HF4 := hide ((unhide HFR).trans hfr4)
  clear ha4 hfr4
  go_wp2_with fail
  go_ret2
  exact ⟨by rw [unhide HE]; go_num, by rw [unhide HE]; exact ⟨unhide HA4, unhide HF4⟩⟩

theorem wstmt_ok (K : EnvOk E) (f : Nat) : WOk E f := by
  induction f with
  | zero => intro w mute st i p j _ _ h; simp [wf0, wfS] at h
  | succ f ih =>
    intro w mute st i p j h hr hf hp _
    rcases wfS_letter hf with hc | hc | hc | hc | hc | hc | hc | hc
    · exact wstmt_plain K h hc
    · exact wstmt_seq K ih h hr hf hp hc
    · exact wstmt_eq K h hr hf hp hc
    · exact wstmt_i K ih h hr hf hp hc
    · exact wstmt_w K ih h hr hf hp hc
    · exact wstmt_r K h hr hf hp hc
    · exact wstmt_o K h hr hf hp hc
    · exact wstmt_c K h hr hf hp hc

end Go.Proofs.YtfcflnnleadpkaaGreat

namespace Go.Proofs.YtfcflnnleadpkaaGreat
open Go.RowKit
variable {E : Env} {w : World} {mute : Bool} {st : WS} {f i j p : Nat}

theorem At.cM (h : At E w mute st) : w.cell? ⟨E.pb, 2, none⟩ = some (.int .i64 (E.main : Int)) := by rw [cell_of_row w _ 2 _ _ _ h.pg]; rfl
theorem At.cPr (h : At E w mute st) : w.cell? ⟨E.pb, 3, none⟩ = some (sl E.np E.gp E.cp) := by rw [cell_of_row w _ 3 _ _ _ h.pg]; rfl
/-- A throw turned. -/
theorem At.setT (S : Sep E) (h : At E w mute st) {k : Nat} (hk : k < E.np) (x : Nat) :
    At E (w.setCell ⟨E.gt, k, none⟩ (.int .i64 (x : Int))) mute { st with T := setF st.T k x } ∧ Fr E w (w.setCell ⟨E.gt, k, none⟩ (.int .i64 (x : Int))) := by
  have hnp : 0 < E.np := by omega
  obtain ⟨cur, hc, _⟩ := h.rt hnp
  have ho : ∀ j, j ≠ E.gt → (w.setCell ⟨E.gt, k, none⟩ (.int .i64 (x : Int))).heap[j]? = w.heap[j]? := fun j hj => Below.heap_setCell w _ _ j hj
  refine ⟨⟨(ho _ (ne_of_types h.wk hc (by decide))).trans h.wk, (ho _ (ne_of_types h.pg hc (by decide))).trans h.pg, (ho _ (ne_of_types h.lb hc (by decide))).trans h.lb, ?_,
    h.fx.of (fun hv => ho _ (Ne.symm (S.tf hv hnp))), h.ps.of (fun _ => ho _ (Ne.symm (S.tp hnp))), h.rv.of (fun hv => ho _ (S.vt hv hnp)), h.rx.of (fun _ => ho _ (S.xt hnp)), ?_⟩, ?_⟩
  · exact h.ord.keep (ho _ (by have := S.o1; have := S.bt hnp; omega)) (ho _ (by have := S.o2; have := S.bt hnp; omega)) (fun i hi => ho _ (by have := S.o3 i hi; have := S.bt hnp; omega))
  · have h2 := h.rt.set k (x : Int)
    rw [lv_set] at h2
    exact h2
  · exact ⟨rfl, rfl, rfl, by simp [World.setCell], fun j _ _ h3 => ho j (h3 hnp).2⟩

/-- One procedure: whether its throw is high enough (or was raised), and the labelling behind it. -/
def thrR (E : Env) (k : Nat) (b : Bool) (t : Nat) (st : WS) : Bool × WS :=
  if jn E.R E.n t (st.T k) = st.T k then (b, st)
  else if E.low = true then (b, { st with T := setF st.T k (jn E.R E.n t (st.T k)), ra := true }) else (false, st)
def thrS (E : Env) (f k : Nat) (a : Bool × WS) : Bool × WS :=
  thrR E k a.1 (wk E f false (E.P k).toNat (a.2.X k) a.2).2.1 (wk E f false (E.P k).toNat (a.2.X k) a.2).2.2
def allTo (E : Env) (f : Nat) (st : WS) : Nat → Bool × WS
  | 0 => (true, (wk E f false E.main (bot E.R E.n) st).2.2)
  | k + 1 => thrS E f k (allTo E f st k)
/-- Every statement of the program once. -/
def allW (E : Env) (f : Nat) (st : WS) : Bool × WS := allTo E f st E.np

/-- The program's parts are whole. -/
structure Parts (E : Env) (f : Nat) : Prop where
  main : ∃ j, wf0 E f E.main = (j, false)
  proc : ∀ k, k < E.np → ∃ (m j : Nat), E.P k = (m : Int) ∧ wf0 E f m = (j, false)

theorem allTo_ok (K : EnvOk E) (Q : Parts E f) (hr : InR E.n E.nv E.np st) : ∀ k, k ≤ E.np → InR E.n E.nv E.np (allTo E f st k).2 := by
  intro k
  induction k with
  | zero =>
    intro _
    obtain ⟨j, hj⟩ := Q.main
    exact (wk_ok K hj (bot_lt K.n1) hr).2.2
  | succ k ih =>
    intro hk
    have h0 := ih (by omega)
    obtain ⟨m, j, em, hj⟩ := Q.proc k (by omega)
    have h1 := wk_ok (mute := false) K hj (h0.X k (by omega)) h0
    have em' : (E.P k).toNat = m := by omega
    show InR E.n E.nv E.np (thrS E f k (allTo E f st k)).2
    unfold thrS thrR
    rw [em']
    split
    · exact h1.2.2
    · split
      · refine ⟨h1.2.2.V, h1.2.2.X, fun l hl => ?_⟩
        simp only [setF]
        split
        · exact (K.L.jn_lt h1.2.1 (h1.2.2.T k (by omega))).1
        · exact h1.2.2.T l hl
      · exact h1.2.2

/-- What every statement once is. -/
def AllOk (E : Env) (f : Nat) : Prop := ∀ (w : World) (st : WS), At E w false st → InR E.n E.nv E.np st →
    Calls Tryz.prog 17 #[.pointer (some ⟨E.wb, 0, none⟩)] w fun e w' => e = .returned (.bool (allW E f st).1) ∧ At E w' false (allW E f st).2 ∧ Fr E w w'

end Go.Proofs.YtfcflnnleadpkaaGreat

namespace Go.Proofs.YtfcflnnleadpkaaGreat
open Go.RowKit

/-- A Prog in memory. -/
structure Pg (E : Env) (w : World) : Prop where
  pg : w.heap[E.pb]? = some (.cells (pgC (.pointer (some ⟨E.ob, 0, none⟩)) E.s E.main (sl E.np E.gp E.cp) (sl E.nv E.gf E.cf)) 79 (0, 0))
  ord : Ord w E.ob E.g E.cap E.n E.rb E.R
  fx : Rw w E.gf E.nv (fixV (bt E.s) E.n)
  ps : Rw w E.gp E.np E.P

variable {E : Env} {w w' w0 w1 wa : World}

theorem Rw.lt {g m : Nat} {F : Nat → Int} (h : Rw w g m F) (hm : 0 < m) : g < w.heap.size := by
  obtain ⟨cur, h1, _⟩ := h hm
  exact (Array.getElem?_eq_some_iff.1 h1).1
theorem Pg.pbl (h : Pg E w) : E.pb < w.heap.size := (Array.getElem?_eq_some_iff.1 h.pg).1
theorem Pg.obl (h : Pg E w) : E.ob < w.heap.size := World.block_lt_of_cell? w _ h.ord.cn
theorem Pg.gl (h : Pg E w) (hn : 1 ≤ E.n) : E.g < w.heap.size := World.block_lt_of_cell? w _ (h.ord.row 0 (by omega))
theorem Pg.rbl (h : Pg E w) {i : Nat} (hi : i < E.n) : E.rb i < w.heap.size := World.block_lt_of_cell? w _ (h.ord.bel i 0 hi (by omega))
theorem Pg.keep (h : Pg E w) (hn : 1 ≤ E.n) (hb : ∀ k, k < w.heap.size → w'.heap[k]? = w.heap[k]?) : Pg E w' :=
  ⟨(hb _ h.pbl).trans h.pg, h.ord.keep (hb _ h.obl) (hb _ (h.gl hn)) (fun _ hi => hb _ (h.rbl hi)), h.fx.of (fun hv => hb _ (h.fx.lt hv)), h.ps.of (fun hv => hb _ (h.ps.lt hv))⟩
theorem Pg.below (h : Pg E w) (hn : 1 ≤ E.n) (hb : Below w.heap.size w w') : Pg E w' := h.keep hn hb.block
theorem Pg.cO (h : Pg E w) : w.cell? ⟨E.pb, 0, none⟩ = some (.pointer (some ⟨E.ob, 0, none⟩)) := by rw [cell_of_row w _ 0 _ _ _ h.pg]; rfl
theorem Pg.cPr (h : Pg E w) : w.cell? ⟨E.pb, 3, none⟩ = some (sl E.np E.gp E.cp) := by rw [cell_of_row w _ 3 _ _ _ h.pg]; rfl
theorem Pg.cF (h : Pg E w) : w.cell? ⟨E.pb, 4, none⟩ = some (sl E.nv E.gf E.cf) := by rw [cell_of_row w _ 4 _ _ _ h.pg]; rfl

/-- A labelling being built. -/
structure LI (w0 w : World) (vv xv tv : Value) (V X T : List Nat) : Prop where
  lab : w.heap[w0.heap.size]? = some (.cells #[vv, xv, tv] 100 (0, 0))
  vown : w.ownsRow (w0.heap.size + 1) 3 1 vv V.length (cells V)
  xown : w.ownsRow (w0.heap.size + 1) 3 1 xv X.length (cells X)
  town : w.ownsRow (w0.heap.size + 1) 3 1 tv T.length (cells T)
  vx : xv.ownBlock = none ∨ xv.ownBlock ≠ vv.ownBlock
  vt : tv.ownBlock = none ∨ tv.ownBlock ≠ vv.ownBlock
  xt : tv.ownBlock = none ∨ tv.ownBlock ≠ xv.ownBlock
  bel : Below w0.heap.size w0 w

variable {vv xv tv : Value} {V X T : List Nat}
theorem LI.c0 (h : LI w0 w vv xv tv V X T) : w.cell? ⟨w0.heap.size, 0, none⟩ = some vv := by rw [cell_of_row w _ 0 _ _ _ h.lab]; rfl
theorem LI.c1 (h : LI w0 w vv xv tv V X T) : w.cell? ⟨w0.heap.size, 1, none⟩ = some xv := by rw [cell_of_row w _ 1 _ _ _ h.lab]; rfl
theorem LI.c2 (h : LI w0 w vv xv tv V X T) : w.cell? ⟨w0.heap.size, 2, none⟩ = some tv := by rw [cell_of_row w _ 2 _ _ _ h.lab]; rfl
theorem LI.fz (h : LI w0 w vv xv tv V X T) (j : Nat) : w.frozen? ⟨w0.heap.size, j, none⟩ = false := frozen_of_row w _ j _ _ h.lab
theorem LI.lt (h : LI w0 w vv xv tv V X T) : w0.heap.size < w.heap.size := (Array.getElem?_eq_some_iff.1 h.lab).1
theorem ob_sym {a b : Option Nat} (h : a = none ∨ a ≠ b) : b = none ∨ b ≠ a := by
  rcases h with h | h
  · cases b with
    | none => exact Or.inl rfl
    | some x => exact Or.inr (by rw [h]; simp)
  · exact Or.inr (Ne.symm h)

/-- One cell appended to one of three rows, and the row's head stored. -/
theorem push_core {B lb gg cap j x : Nat} {C0 : Array Value} {ty : TypeId} {P : List Nat} {pv l1 l2 : Value} {n1 n2 : Nat} {x1 x2 : List Value}
    (hwa : wa.heap.size = w.heap.size + 1) (hab : Below w.heap.size w wa) (hlab : w.heap[lb]? = some (.cells C0 ty (0, 0))) (hB : lb < B)
    (hpown : w.ownsRow B 3 1 pv P.length (cells P)) (h1 : w.ownsRow B 3 1 l1 n1 x1) (h2 : w.ownsRow B 3 1 l2 n2 x2)
    (s1 : l1.ownBlock = none ∨ l1.ownBlock ≠ pv.ownBlock) (s2 : l2.ownBlock = none ∨ l2.ownBlock ≠ pv.ownBlock)
    (hown1 : w1.ownsRow B 3 1 (.slice (some ⟨gg, 0, none⟩) (P.length + 1) cap) (P.length + 1) (cells P ++ [.int .i64 (x : Int)]))
    (hgrow : wa.grownBy w1 pv.ownBlock) (hat : pv.ownBlock = some gg ∨ gg = w.heap.size + 1) :
    (w1.setCell ⟨lb, j, none⟩ (.slice (some ⟨gg, 0, none⟩) (P.length + 1) cap)).heap[lb]? = some (.cells (C0.setIfInBounds j (.slice (some ⟨gg, 0, none⟩) (P.length + 1) cap)) ty (0, 0)) ∧
    (w1.setCell ⟨lb, j, none⟩ (.slice (some ⟨gg, 0, none⟩) (P.length + 1) cap)).ownsRow B 3 1 (.slice (some ⟨gg, 0, none⟩) (P.length + 1) cap) (P ++ [x]).length (cells (P ++ [x])) ∧
    (w1.setCell ⟨lb, j, none⟩ (.slice (some ⟨gg, 0, none⟩) (P.length + 1) cap)).ownsRow B 3 1 l1 n1 x1 ∧
    (w1.setCell ⟨lb, j, none⟩ (.slice (some ⟨gg, 0, none⟩) (P.length + 1) cap)).ownsRow B 3 1 l2 n2 x2 ∧
    (l1.ownBlock = none ∨ l1.ownBlock ≠ some gg) ∧ (l2.ownBlock = none ∨ l2.ownBlock ≠ some gg) ∧
    Below lb w (w1.setCell ⟨lb, j, none⟩ (.slice (some ⟨gg, 0, none⟩) (P.length + 1) cap)) := by
  have hlb : lb < w.heap.size := (Array.getElem?_eq_some_iff.1 hlab).1
  have hpp : ∀ j, pv.ownBlock = some j → B ≤ j := fun j hj => (hpown.lt j hj).1
  have hb1 : ∀ k, k < w.heap.size → some k ≠ pv.ownBlock → w1.heap[k]? = w.heap[k]? := fun k hk hne => (hgrow.block k (by omega) hne).trans (hab.block k hk)
  have hl1 : w1.heap[lb]? = some (.cells C0 ty (0, 0)) := (hb1 lb hlb (fun e => by have := hpp lb e.symm; omega)).trans hlab
  rw [setCell_eq_setRow w1 lb _ _ _ _ _ hl1]
  have hgg := hown1.lt gg rfl
  have hb2 : ∀ k, k ≠ lb → (w1.setRow lb (C0.setIfInBounds j (.slice (some ⟨gg, 0, none⟩) (P.length + 1) cap))).heap[k]? = w1.heap[k]? := fun k hk => setRow_other w1 lb k _ hk
  have kb : ∀ (l : Value) (n : Nat) (xs : List Value), w.ownsRow B 3 1 l n xs → (l.ownBlock = none ∨ l.ownBlock ≠ pv.ownBlock) → ∀ g, l.ownBlock = some g → (w1.setRow lb (C0.setIfInBounds j (.slice (some ⟨gg, 0, none⟩) (P.length + 1) cap))).heap[g]? = w.heap[g]? := by
    intro l n xs hl hne g hg
    have hlt := hl.lt g hg
    refine (hb2 g (by omega)).trans (hb1 g hlt.2 (fun e => ?_))
    rcases hne with hn | hn
    · rw [hn] at hg; cases hg
    · exact hn (hg.trans e)
  have sep : ∀ (l : Value) (n : Nat) (xs : List Value), w.ownsRow B 3 1 l n xs → (l.ownBlock = none ∨ l.ownBlock ≠ pv.ownBlock) → l.ownBlock = none ∨ l.ownBlock ≠ some gg := by
    intro l n xs hl hne
    rcases hat with e | e
    · rw [← e]; exact hne
    · cases el : l.ownBlock with
      | none => exact Or.inl rfl
      | some g =>
        right
        intro e'
        have := (hl.lt g el).2
        simp at e'
        omega
  refine ⟨setRow_heap w1 lb _ _ _ _ hl1, ?_, ownsRow_keep h1 (kb l1 _ _ h1 s1), ownsRow_keep h2 (kb l2 _ _ h2 s2), sep l1 _ _ h1 s1, sep l2 _ _ h2 s2, ?_⟩
  · have h3 := ownsRow_keep hown1 (w' := w1.setRow lb (C0.setIfInBounds j (.slice (some ⟨gg, 0, none⟩) (P.length + 1) cap))) (fun g hg => hb2 g (by simp [Value.ownBlock] at hg; omega))
    rw [cells_snoc] at h3
    simpa using h3
  · exact ⟨hgrow.os.trans hab.os, hgrow.tape.trans hab.tape, hgrow.output.trans hab.output, by have := hgrow.size; simp at this ⊢; omega, fun k hk => (hb2 k (by omega)).trans (hb1 k (by omega) (fun e => by have := hpp k e.symm; omega))⟩

theorem LI.pushV {gg cap x : Nat} (h : LI w0 w vv xv tv V X T) (hwa : wa.heap.size = w.heap.size + 1) (hab : Below w.heap.size w wa)
    (hown1 : w1.ownsRow (w0.heap.size + 1) 3 1 (.slice (some ⟨gg, 0, none⟩) (V.length + 1) cap) (V.length + 1) (cells V ++ [.int .i64 (x : Int)]))
    (hgrow : wa.grownBy w1 vv.ownBlock) (hat : vv.ownBlock = some gg ∨ gg = w.heap.size + 1) :
    LI w0 (w1.setCell ⟨w0.heap.size, 0, none⟩ (.slice (some ⟨gg, 0, none⟩) (V.length + 1) cap)) (.slice (some ⟨gg, 0, none⟩) (V.length + 1) cap) xv tv (V ++ [x]) X T := by
  obtain ⟨a1, a2, a3, a4, a5, a6, a7⟩ := push_core (j := 0) hwa hab h.lab (Nat.lt_succ_self _) h.vown h.xown h.town h.vx h.vt hown1 hgrow hat
  exact ⟨a1, a2, a3, a4, a5, a6, h.xt, h.bel.trans a7⟩
theorem LI.pushX {gg cap x : Nat} (h : LI w0 w vv xv tv V X T) (hwa : wa.heap.size = w.heap.size + 1) (hab : Below w.heap.size w wa)
    (hown1 : w1.ownsRow (w0.heap.size + 1) 3 1 (.slice (some ⟨gg, 0, none⟩) (X.length + 1) cap) (X.length + 1) (cells X ++ [.int .i64 (x : Int)]))
    (hgrow : wa.grownBy w1 xv.ownBlock) (hat : xv.ownBlock = some gg ∨ gg = w.heap.size + 1) :
    LI w0 (w1.setCell ⟨w0.heap.size, 1, none⟩ (.slice (some ⟨gg, 0, none⟩) (X.length + 1) cap)) vv (.slice (some ⟨gg, 0, none⟩) (X.length + 1) cap) tv V (X ++ [x]) T := by
  obtain ⟨a1, a2, a3, a4, a5, a6, a7⟩ := push_core (j := 1) hwa hab h.lab (Nat.lt_succ_self _) h.xown h.vown h.town (ob_sym h.vx) h.xt hown1 hgrow hat
  exact ⟨a1, a3, a2, a4, ob_sym a5, h.vt, a6, h.bel.trans a7⟩
theorem LI.pushT {gg cap x : Nat} (h : LI w0 w vv xv tv V X T) (hwa : wa.heap.size = w.heap.size + 1) (hab : Below w.heap.size w wa)
    (hown1 : w1.ownsRow (w0.heap.size + 1) 3 1 (.slice (some ⟨gg, 0, none⟩) (T.length + 1) cap) (T.length + 1) (cells T ++ [.int .i64 (x : Int)]))
    (hgrow : wa.grownBy w1 tv.ownBlock) (hat : tv.ownBlock = some gg ∨ gg = w.heap.size + 1) :
    LI w0 (w1.setCell ⟨w0.heap.size, 2, none⟩ (.slice (some ⟨gg, 0, none⟩) (T.length + 1) cap)) vv xv (.slice (some ⟨gg, 0, none⟩) (T.length + 1) cap) V X (T ++ [x]) := by
  obtain ⟨a1, a2, a3, a4, a5, a6, a7⟩ := push_core (j := 2) hwa hab h.lab (Nat.lt_succ_self _) h.town h.vown h.xown (ob_sym h.vt) (ob_sym h.xt) hown1 hgrow hat
  exact ⟨a1, a3, a4, a2, h.vx, ob_sym a5, ob_sym a6, h.bel.trans a7⟩

/-- What the labelling begins as. -/
def v0 (E : Env) (k : Nat) : Nat := if 0 ≤ fixV (bt E.s) E.n k then (fixV (bt E.s) E.n k).toNat else bot E.R E.n
def st0 (E : Env) : WS := ⟨v0 E, fun _ => bot E.R E.n, fun _ => bot E.R E.n, false, -1⟩
def rsW (st : WS) : WS := { st with ra := false, bad := -1 }
def stepW (E : Env) (f : Nat) (st : WS) : WS := (allW { E with low := true } f (rsW st)).2
def lowR (E : Env) (f : Nat) : Nat → Bool → WS → WS
  | 0, _, st => st
  | g + 1, b, st => if b = true then lowR E f g (stepW E f st).ra (stepW E f st) else st
/-- The lowest labelling. -/
def lowW (E : Env) (f : Nat) : WS := lowR E f 129 true (st0 E)
theorem v0_lt (h : 1 ≤ E.n) (k : Nat) : v0 E k < E.n := by
  unfold v0
  split
  · rename_i hk
    unfold fixV dgt at hk ⊢
    split at hk
    · rename_i hd
      have := (isDB_iff _ _).1 hd
      rw [if_pos hd]
      omega
    · omega
  · exact bot_lt h
theorem st0_in (h : 1 ≤ E.n) : InR E.n E.nv E.np (st0 E) := ⟨fun k _ => v0_lt h k, fun _ _ => bot_lt h, fun _ _ => bot_lt h⟩

/-- All but the Walk. -/
structure At0 (E : Env) (w : World) (st : WS) : Prop where
  pg : Pg E w
  lb : w.heap[E.lb]? = some (.cells #[sl E.nv E.gv E.cv, sl E.np E.gx E.cx, sl E.np E.gt E.ct] 100 (0, 0))
  rv : Rw w E.gv E.nv (lv st.V)
  rx : Rw w E.gx E.np (lv st.X)
  rt : Rw w E.gt E.np (lv st.T)
theorem At.at0 {st : WS} {mute : Bool} (h : At E w mute st) : At0 E w st := ⟨⟨h.pg, h.ord, h.fx, h.ps⟩, h.lb, h.rv, h.rx, h.rt⟩

end Go.Proofs.YtfcflnnleadpkaaGreat

namespace Go.Proofs.YtfcflnnleadpkaaGreat

def fxE (E : Env) : Nat → Int := fixV (bt E.s) E.n
/-- The table's row of the main statement; of a procedure. -/
def tdM (E : Env) (f : Nat) (V T : Nat → Nat) : Nat × Nat × List Dm := wd (bt E.s) E.R E.n V T f E.main (bot E.R E.n)
def tdP (E : Env) (f : Nat) (V X T : Nat → Nat) (k : Nat) : Nat × Nat × List Dm := wd (bt E.s) E.R E.n V T f (E.P k).toNat (X k)
/-- Every demand of the program. -/
def allD (E : Env) (f : Nat) (V X T : Nat → Nat) : Nat → List Dm
  | 0 => (tdM E f V T).2.2
  | k + 1 => allD E f V X T k ++ (tdP E f V X T k).2.2
/-- Are the throws high enough? -/
def okT (E : Env) (f : Nat) (V X T : Nat → Nat) : Nat → Bool
  | 0 => true
  | k + 1 => okT E f V X T k && decide (jn E.R E.n (tdP E f V X T k).2.1 (T k) = T k)
/-- The demands that raising meets, and the throws, hold. -/
structure SoftW (E : Env) (f : Nat) (V X T : Nat → Nat) : Prop where
  dem : Sat E.R E.n (fxE E) V X (allD E f V X T E.np)
  thr : ∀ k, k < E.np → Le E.R E.n (tdP E f V X T k).2.1 (T k)
/-- All of them hold. -/
structure FitW (E : Env) (f : Nat) (V X T : Nat → Nat) : Prop where
  dem : ∀ d ∈ allD E f V X T E.np, E.R d.a (tgv V X d.tg) = true
  thr : ∀ k, k < E.np → jn E.R E.n (tdP E f V X T k).2.1 (T k) = T k

section
variable {E : Env} {f : Nat} {st : WS} {V X T V' X' T' : Nat → Nat}

theorem allTo_flat (hl : E.low = false) (st : WS) : ∀ k, allTo E f st k = (okT E f st.V st.X st.T k, putB st (bdF E.R st.V st.X (allD E f st.V st.X st.T k) st.bad)) := by
  intro k
  induction k with
  | zero => simp only [allTo]; unfold wk; rw [hl, wkS_flat]; rfl
  | succ k ih =>
    simp only [allTo]
    rw [ih]
    unfold thrS thrR
    simp only
    unfold wk
    rw [hl, wkS_flat]
    simp only [allD, okT, Bool.false_eq_true, if_false]
    rw [bdF_append]
    have e : (wd (bt E.s) E.R E.n (putB st (bdF E.R st.V st.X (allD E f st.V st.X st.T k) st.bad)).V (putB st (bdF E.R st.V st.X (allD E f st.V st.X st.T k) st.bad)).T f (E.P k).toNat ((putB st (bdF E.R st.V st.X (allD E f st.V st.X st.T k) st.bad)).X k)) = tdP E f st.V st.X st.T k := rfl
    rw [e]
    have e2 : (putB (putB st (bdF E.R st.V st.X (allD E f st.V st.X st.T k) st.bad)) (bdF E.R (putB st (bdF E.R st.V st.X (allD E f st.V st.X st.T k) st.bad)).V (putB st (bdF E.R st.V st.X (allD E f st.V st.X st.T k) st.bad)).X (tdP E f st.V st.X st.T k).2.2 (putB st (bdF E.R st.V st.X (allD E f st.V st.X st.T k) st.bad)).bad)).T k = st.T k := rfl
    rw [e2]
    by_cases h : jn E.R E.n (tdP E f st.V st.X st.T k).2.1 (st.T k) = st.T k
    · rw [if_pos h, decide_eq_true h, Bool.and_true]; rfl
    · rw [if_neg h, decide_eq_false h, Bool.and_false]; rfl

theorem bd1_neg {R : Nat → Nat → Bool} {d : Dm} {b : Int} (hb : b < 0) : bd1 R V X d b < 0 ↔ R d.a (tgv V X d.tg) = true := by
  unfold bd1
  cases h : R d.a (tgv V X d.tg)
  · rw [if_pos ⟨rfl, Or.inl hb⟩]; simp
  · rw [if_neg (by simp)]; simp [hb]
theorem bdF_pos {R : Nat → Nat → Bool} : ∀ (ds : List Dm) (b : Int), 0 ≤ b → 0 ≤ bdF R V X ds b := by
  intro ds
  induction ds with
  | nil => intro b h; exact h
  | cons d ds ih =>
    intro b h
    refine ih _ ?_
    unfold bd1
    split <;> omega
/-- No bad place: every demand holds. -/
theorem bdF_neg {R : Nat → Nat → Bool} : ∀ (ds : List Dm) (b : Int), b < 0 → (bdF R V X ds b < 0 ↔ ∀ d ∈ ds, R d.a (tgv V X d.tg) = true) := by
  intro ds
  induction ds with
  | nil => intro b hb; simp [bdF, hb]
  | cons d ds ih =>
    intro b hb
    simp only [bdF, List.forall_mem_cons]
    by_cases h : bd1 R V X d b < 0
    · rw [ih _ h, bd1_neg hb] at *
      exact ⟨fun h2 => ⟨h, h2⟩, fun h2 => h2.2⟩
    · have h1 := bdF_pos (R := R) (V := V) (X := X) ds (bd1 R V X d b) (by omega)
      have h2 : ¬ R d.a (tgv V X d.tg) = true := fun e => h ((bd1_neg (R := R) (V := V) (X := X) (d := d) hb).2 e)
      constructor
      · intro h3; omega
      · intro h3; exact absurd h3.1 h2
/-- The first bad place: some demand there does not hold, and none ahead of it. -/
theorem bdF_least {R : Nat → Nat → Bool} : ∀ (ds : List Dm) (b : Int), 
    (∀ d ∈ ds, R d.a (tgv V X d.tg) = false → bdF R V X ds b ≤ (d.pl : Int)) ∧ (0 ≤ b → bdF R V X ds b ≤ b) ∧ (bdF R V X ds b = b ∨ ∃ d ∈ ds, R d.a (tgv V X d.tg) = false ∧ bdF R V X ds b = (d.pl : Int)) := by
  intro ds
  induction ds with
  | nil => intro b; exact ⟨fun d hd => by simp at hd, fun _ => Int.le_refl _, Or.inl rfl⟩
  | cons d ds ih =>
    intro b
    obtain ⟨h1, h2, h3⟩ := ih (bd1 R V X d b)
    have hle : 0 ≤ b → bd1 R V X d b ≤ b := by intro hb; unfold bd1; split <;> omega
    have hge : 0 ≤ b → 0 ≤ bd1 R V X d b := by intro hb; unfold bd1; split <;> omega
    have hd : R d.a (tgv V X d.tg) = false → bd1 R V X d b ≤ (d.pl : Int) ∧ 0 ≤ bd1 R V X d b := by
      intro hf
      unfold bd1
      by_cases hb : b < 0 ∨ (d.pl : Int) < b
      · rw [if_pos ⟨hf, hb⟩]; omega
      · rw [if_neg (fun h => hb h.2)]; omega
    refine ⟨fun e he hf => ?_, fun hb => ?_, ?_⟩
    · rcases List.mem_cons.1 he with he | he
      · subst he
        have := hd hf
        have := h2 this.2
        simp only [bdF]; omega
      · exact h1 e he hf
    · have := h2 (hge hb)
      have := hle hb
      simp only [bdF]; omega
    · rcases h3 with h3 | ⟨e, he, hf, h3⟩
      · by_cases hf : R d.a (tgv V X d.tg) = false ∧ (b < 0 ∨ (d.pl : Int) < b)
        · right
          refine ⟨d, List.mem_cons.2 (Or.inl rfl), hf.1, ?_⟩
          simp only [bdF]; rw [h3]; unfold bd1; rw [if_pos hf]
        · left
          simp only [bdF]; rw [h3]; unfold bd1; rw [if_neg hf]
      · exact Or.inr ⟨e, List.mem_cons.2 (Or.inr he), hf, h3⟩
theorem okT_iff : ∀ k, okT E f V X T k = true ↔ ∀ j, j < k → jn E.R E.n (tdP E f V X T j).2.1 (T j) = T j := by
  intro k
  induction k with
  | zero => simp [okT]
  | succ k ih =>
    simp only [okT, Bool.and_eq_true, decide_eq_true_eq]
    rw [ih]
    constructor
    · intro h j hj
      by_cases e : j = k
      · rw [e]; exact h.2
      · exact h.1 j (by omega)
    · intro h
      exact ⟨fun j hj => h j (by omega), h k (by omega)⟩
theorem fitW_iff : FitW E f V X T ↔ okT E f V X T E.np = true ∧ bdF E.R V X (allD E f V X T E.np) (-1) < 0 := by
  rw [okT_iff, bdF_neg _ _ (by omega)]
  exact ⟨fun h => ⟨h.thr, h.dem⟩, fun h => ⟨h.2, h.1⟩⟩

/-- The labelling rose. -/
structure RisA (E : Env) (st r : WS) : Prop where
  V : Bel E.R E.n E.nv st.V r.V
  X : Bel E.R E.n E.np st.X r.X
  T : Bel E.R E.n E.np st.T r.T
  ra : st.ra = true → r.ra = true
  fx : ∀ k, 0 ≤ fxE E k → r.V k = st.V k
theorem RisA.mH (A : Lat E.n E.R) {r : WS} (h : RisA E st r) : mH E.R E.n E.nv E.np st ≤ mH E.R E.n E.nv E.np r := by
  have h1 := sm_le A E.nv h.V
  have h2 := sm_le A E.np h.X
  have h3 := sm_le A E.np h.T
  unfold Go.Proofs.YtfcflnnleadpkaaGreat.mH
  omega
theorem RisA.trans (A : Lat E.n E.R) {r s : WS} (h : RisA E st r) (k : RisA E r s) : RisA E st s :=
  ⟨h.V.trans A k.V, h.X.trans A k.X, h.T.trans A k.T, fun e => k.ra (h.ra e), fun j hj => (k.fx j hj).trans (h.fx j hj)⟩
theorem Ris.risA (A : Lat E.n E.R) {r : WS} (hr : InR E.n E.nv E.np st) (h : Ris E.R E.n E.nv E.np (fxE E) st r) : RisA E st r :=
  ⟨h.V, h.X, by rw [h.T]; exact Bel.refl A hr.T, h.ra, h.fx⟩

/-- What one procedure's throw does. -/
theorem thrR_low (A : Lat E.n E.R) (hl : E.low = true) {k t : Nat} {b : Bool} (hk : k < E.np) (ht : t < E.n) (hr : InR E.n E.nv E.np st) :
    InR E.n E.nv E.np (thrR E k b t st).2 ∧ RisA E st (thrR E k b t st).2 ∧ SR E.R E.n E.nv E.np st (thrR E k b t st).2 (Le E.R E.n t (st.T k)) ∧
    (thrR E k b t st).2.V = st.V ∧ (thrR E k b t st).2.X = st.X ∧ (Bel E.R E.n E.np st.T T' → Le E.R E.n t (T' k) → Bel E.R E.n E.np (thrR E k b t st).2.T T') := by
  unfold thrR
  by_cases h : jn E.R E.n t (st.T k) = st.T k
  · rw [if_pos h]
    exact ⟨hr, ⟨Bel.refl A hr.V, Bel.refl A hr.X, Bel.refl A hr.T, fun h => h, fun _ _ => rfl⟩, Or.inl ⟨⟨st.bad, rfl⟩, A.of_jn' ht (hr.T k hk) h⟩, rfl, rfl, fun h _ => h⟩
  · rw [if_neg h, if_pos hl]
    have hb : Bel E.R E.n E.np st.T (setF st.T k (jn E.R E.n t (st.T k))) := Bel.set A hr.T (A.r ht (hr.T k hk))
    refine ⟨⟨hr.V, hr.X, fun j hj => (hb j hj).2.2⟩, ⟨Bel.refl A hr.V, Bel.refl A hr.X, hb, fun _ => rfl, fun _ _ => rfl⟩, Or.inr ⟨rfl, ?_⟩, rfl, rfl, fun h1 h2 => h1.setU (A.sup h2 (h1 k hk))⟩
    have h3 := sm_lt A E.np hb hk (by unfold setF; rw [if_pos rfl]; exact fun e => h e.symm)
    unfold Go.Proofs.YtfcflnnleadpkaaGreat.mH
    simp only
    omega

/-- Every statement once, raising. -/
theorem allTo_low (A : Lat E.n E.R) (Q : Parts E f) (hl : E.low = true) (hr : InR E.n E.nv E.np st) : ∀ k, k ≤ E.np →
    InR E.n E.nv E.np (allTo E f st k).2 ∧ RisA E st (allTo E f st k).2 ∧
    SR E.R E.n E.nv E.np st (allTo E f st k).2 (Sat E.R E.n (fxE E) st.V st.X (allD E f st.V st.X st.T k) ∧ ∀ j, j < k → Le E.R E.n (tdP E f st.V st.X st.T j).2.1 (st.T j)) ∧
    (Bel E.R E.n E.nv st.V V' → Bel E.R E.n E.np st.X X' → Bel E.R E.n E.np st.T T' → Sat E.R E.n (fxE E) V' X' (allD E f V' X' T' k) → (∀ j, j < k → Le E.R E.n (tdP E f V' X' T' j).2.1 (T' j)) →
      Bel E.R E.n E.nv (allTo E f st k).2.V V' ∧ Bel E.R E.n E.np (allTo E f st k).2.X X' ∧ Bel E.R E.n E.np (allTo E f st k).2.T T') := by
  intro k
  induction k with
  | zero =>
    intro _
    obtain ⟨j, hj⟩ := Q.main
    have hb := bot_lt (R := E.R) A.n1
    have h1 := wkS_ok (fx := fxE E) (low := true) (c := bt E.s) A.L A.n1 f false E.main (bot E.R E.n) j st hj hb hr
    have h2 := wkS_rise (fx := fxE E) (c := bt E.s) A f E.main (bot E.R E.n) j st hj hb hr
    have h3 := wkS_still (fx := fxE E) (c := bt E.s) A f E.main (bot E.R E.n) j st hj hb hr
    have e : (allTo E f st 0).2 = (wkS (bt E.s) E.R E.n (fxE E) true f false E.main (bot E.R E.n) st).2.2 := by simp only [allTo]; unfold wk; rw [hl]; rfl
    rw [e]
    refine ⟨h1.2.2, h2.risA A hr, ?_, fun hV hX hT hs _ => ?_⟩
    · rcases h3 with ⟨g1, g2, g3⟩ | g
      · exact Or.inl ⟨g1, g3, fun j hj => by omega⟩
      · exact Or.inr g
    · have h4 := wkS_under (fx := fxE E) (c := bt E.s) (V' := V') (X' := X') (T' := T') A f E.main (bot E.R E.n) (bot E.R E.n) j st hj hb hr hV hX hT (A.refl hb) hs
      exact ⟨h4.1, h4.2.1, by rw [h2.T]; exact hT⟩
  | succ k ih =>
    intro hk
    obtain ⟨i1, i2, i3, i4⟩ := ih (by omega)
    obtain ⟨m, j, em, hj⟩ := Q.proc k (by omega)
    have em' : (E.P k).toNat = m := by omega
    obtain ⟨r, er⟩ : ∃ r, (allTo E f st k).2 = r := ⟨_, rfl⟩
    rw [er] at i1 i2 i3 i4
    have hx := i1.X k (by omega)
    have h1 := wkS_ok (fx := fxE E) (low := true) (c := bt E.s) A.L A.n1 f false m (r.X k) j r hj hx i1
    have h2 := wkS_rise (fx := fxE E) (c := bt E.s) A f m (r.X k) j r hj hx i1
    have h3 := wkS_still (fx := fxE E) (c := bt E.s) A f m (r.X k) j r hj hx i1
    obtain ⟨y, ey⟩ : ∃ y, wkS (bt E.s) E.R E.n (fxE E) true f false m (r.X k) r = y := ⟨_, rfl⟩
    have e : ∃ b, (allTo E f st (k + 1)).2 = (thrR E k b y.2.1 y.2.2).2 := by
      refine ⟨(allTo E f st k).1, ?_⟩
      simp only [allTo]
      unfold thrS wk
      rw [hl, er, em', ← ey]; rfl
    obtain ⟨b, e⟩ := e
    rw [e]
    rw [ey] at h1 h2 h3
    obtain ⟨t1, t2, t3, t4, t5, t6⟩ := thrR_low (T' := T') (b := b) A hl (by omega : k < E.np) h1.2.1 h1.2.2
    refine ⟨t1, (i2.trans A (h2.risA A i1)).trans A t2, ?_, fun hV hX hT hs ht => ?_⟩
    · have hm := (h2.risA A i1).mH A
      have hm2 := t2.mH A
      rcases i3 with ⟨⟨b1, g1⟩, g2, g3⟩ | ⟨g1, g2⟩
      · rcases h3 with ⟨⟨b2, f1⟩, f2, f3⟩ | ⟨f1, f2⟩
        · rcases t3 with ⟨⟨b3, s1⟩, s2⟩ | ⟨s1, s2⟩
          · refine Or.inl ⟨⟨b3, by rw [s1, f1, g1]; rfl⟩, ?_, fun l hl2 => ?_⟩
            · refine g2.app ?_
              rw [g1] at f3
              unfold tdP
              rw [em']
              exact f3
            · by_cases el : l = k
              · subst el
                unfold tdP
                rw [em']
                rw [f2, f1, g1] at s2
                exact s2
              · exact g3 l (by omega)
          · refine Or.inr ⟨s1, ?_⟩
            have e3 : mH E.R E.n E.nv E.np y.2.2 = mH E.R E.n E.nv E.np st := by rw [f1, g1]; rfl
            rw [e3] at s2
            exact s2
        · refine Or.inr ⟨t2.ra f1, ?_⟩
          rw [g1] at f2
          exact Nat.lt_of_lt_of_le f2 hm2
      · exact Or.inr ⟨t2.ra (h2.ra g1), by omega⟩
    · obtain ⟨p1, p2, p3⟩ := i4 hV hX hT hs.fst (fun l hl2 => ht l (by omega))
      have hs2 : Sat E.R E.n (fxE E) V' X' (wd (bt E.s) E.R E.n V' T' f m (X' k)).2.2 := by
        have := hs.snd
        unfold tdP at this
        rw [em'] at this
        exact this
      have h4 := wkS_under (fx := fxE E) (c := bt E.s) (V' := V') (X' := X') (T' := T') A f m (r.X k) (X' k) j r hj hx i1 p1 p2 p3 (p2 k (by omega)) hs2
      rw [ey] at h4
      refine ⟨by rw [t4]; exact h4.1, by rw [t5]; exact h4.2.1, t6 (by rw [h2.T]; exact p3) ?_⟩
      refine A.trans h4.2.2 ?_
      have := ht k (by omega)
      unfold tdP at this
      rw [em'] at this
      exact this
end

end Go.Proofs.YtfcflnnleadpkaaGreat

namespace Go.Proofs.YtfcflnnleadpkaaGreat

/-- The text's levels are kept. -/
def Fixd (E : Env) (V : Nat → Nat) : Prop := ∀ k, k < E.nv → 0 ≤ fxE E k → (V k : Int) = fxE E k
/-- The lowest labelling. -/
structure LowOk (E : Env) (f : Nat) (V X T : Nat → Nat) : Prop where
  iv : ∀ k, k < E.nv → V k < E.n
  ix : ∀ k, k < E.np → X k < E.n
  it : ∀ k, k < E.np → T k < E.n
  fx : Fixd E V
  soft : SoftW E f V X T
  least : ∀ V' X' T', (∀ k, k < E.nv → V' k < E.n) → (∀ k, k < E.np → X' k < E.n) → (∀ k, k < E.np → T' k < E.n) → Fixd E V' → SoftW E f V' X' T' →
    Bel E.R E.n E.nv V V' ∧ Bel E.R E.n E.np X X' ∧ Bel E.R E.n E.np T T'

section
variable {E : Env} {f : Nat} {st : WS} {V X T V' X' T' : Nat → Nat}

/-- The environment that raises. -/
def upE (E : Env) : Env := { E with low := true }
theorem Parts.up (Q : Parts E f) : Parts (upE E) f := ⟨Q.main, Q.proc⟩

theorem allD_up : ∀ k, allD (upE E) f V X T k = allD E f V X T k := by
  intro k
  induction k with
  | zero => rfl
  | succ k ih => simp only [allD]; rw [ih]; rfl
theorem sat_up {k : Nat} : Sat (upE E).R (upE E).n (fxE (upE E)) V X (allD (upE E) f V X T k) = Sat E.R E.n (fxE E) V X (allD E f V X T k) := by rw [allD_up]; rfl

/-- One round. -/
theorem stepW_low (A : Lat E.n E.R) (Q : Parts E f) (hr : InR E.n E.nv E.np st) :
    InR E.n E.nv E.np (stepW E f st) ∧ RisA E st { stepW E f st with ra := true } ∧
    (((stepW E f st).ra = false ∧ SoftW E f (stepW E f st).V (stepW E f st).X (stepW E f st).T) ∨ ((stepW E f st).ra = true ∧ mH E.R E.n E.nv E.np st < mH E.R E.n E.nv E.np (stepW E f st))) ∧
    (Bel E.R E.n E.nv st.V V' → Bel E.R E.n E.np st.X X' → Bel E.R E.n E.np st.T T' → SoftW E f V' X' T' →
      Bel E.R E.n E.nv (stepW E f st).V V' ∧ Bel E.R E.n E.np (stepW E f st).X X' ∧ Bel E.R E.n E.np (stepW E f st).T T') := by
  have hr0 : InR (upE E).n (upE E).nv (upE E).np (rsW st) := ⟨hr.V, hr.X, hr.T⟩
  obtain ⟨h1, h2, h3, h4⟩ := allTo_low (E := upE E) (V' := V') (X' := X') (T' := T') (st := rsW st) A Q.up rfl hr0 E.np (Nat.le_refl _)
  have e : (allTo (upE E) f (rsW st) E.np).2 = stepW E f st := rfl
  rw [e] at h1 h2 h3 h4
  refine ⟨h1, ⟨h2.V, h2.X, h2.T, fun _ => rfl, h2.fx⟩, ?_, fun hV hX hT hs => h4 hV hX hT (by rw [sat_up]; exact hs.dem) hs.thr⟩
  rcases h3 with ⟨⟨b, g1⟩, g2, g3⟩ | ⟨g1, g2⟩
  · refine Or.inl ⟨by rw [g1]; rfl, ?_⟩
    rw [g1]
    rw [sat_up] at g2
    exact ⟨g2, g3⟩
  · exact Or.inr ⟨g1, g2⟩

theorem mH_top (hn : E.n ≤ 8) (hv : E.nv ≤ 8) (hp : E.np ≤ 4) : mH E.R E.n E.nv E.np st ≤ 128 := by
  have h1 := sm_top (R := E.R) (n := E.n) (F := st.V) (m := E.nv)
  have h2 := sm_top (R := E.R) (n := E.n) (F := st.X) (m := E.np)
  have h3 := sm_top (R := E.R) (n := E.n) (F := st.T) (m := E.np)
  have a1 : E.nv * E.n ≤ 8 * 8 := Nat.mul_le_mul hv hn
  have a2 : E.np * E.n ≤ 4 * 8 := Nat.mul_le_mul hp hn
  unfold Go.Proofs.YtfcflnnleadpkaaGreat.mH
  omega

/-- The rounds. -/
theorem lowR_low (A : Lat E.n E.R) (Q : Parts E f) (hn : E.n ≤ 8) (hv : E.nv ≤ 8) (hp : E.np ≤ 4) : ∀ (g : Nat) (b : Bool) (st : WS), InR E.n E.nv E.np st →
    (b = false → SoftW E f st.V st.X st.T) → (b = true → 129 ≤ mH E.R E.n E.nv E.np st + g) →
    InR E.n E.nv E.np (lowR E f g b st) ∧ (∀ k, 0 ≤ fxE E k → (lowR E f g b st).V k = st.V k) ∧ SoftW E f (lowR E f g b st).V (lowR E f g b st).X (lowR E f g b st).T ∧
    (Bel E.R E.n E.nv st.V V' → Bel E.R E.n E.np st.X X' → Bel E.R E.n E.np st.T T' → SoftW E f V' X' T' →
      Bel E.R E.n E.nv (lowR E f g b st).V V' ∧ Bel E.R E.n E.np (lowR E f g b st).X X' ∧ Bel E.R E.n E.np (lowR E f g b st).T T') := by
  intro g
  induction g with
  | zero =>
    intro b st hr h1 h2
    have ht := mH_top (st := st) hn hv hp
    cases b
    · exact ⟨hr, fun _ _ => rfl, h1 rfl, fun a b c _ => ⟨a, b, c⟩⟩
    · have := h2 rfl; omega
  | succ g ih =>
    intro b st hr h1 h2
    cases b
    · exact ⟨hr, fun _ _ => rfl, h1 rfl, fun a b c _ => ⟨a, b, c⟩⟩
    · have h2 := h2 rfl
      obtain ⟨s1, s2, s3, s4⟩ := stepW_low (V' := V') (X' := X') (T' := T') A Q hr
      have e : lowR E f (g + 1) true st = lowR E f g (stepW E f st).ra (stepW E f st) := rfl
      rw [e]
      obtain ⟨i1, i2, i3, i4⟩ := ih (stepW E f st).ra (stepW E f st) s1
        (fun h => by
          rcases s3 with g1 | g1
          · exact g1.2
          · rw [g1.1] at h; cases h)
        (fun h => by
          rcases s3 with g1 | g1
          · rw [g1.1] at h; cases h
          · omega)
      refine ⟨i1, fun k hk => (i2 k hk).trans (s2.fx k hk), i3, fun a b c d => ?_⟩
      obtain ⟨p1, p2, p3⟩ := s4 a b c d
      exact i4 p1 p2 p3 d

theorem lowW_ok (A : Lat E.n E.R) (Q : Parts E f) (hn : E.n ≤ 8) (hv : E.nv ≤ 8) (hp : E.np ≤ 4) : LowOk E f (lowW E f).V (lowW E f).X (lowW E f).T := by
  have h := fun V' X' T' => lowR_low (V' := V') (X' := X') (T' := T') A Q hn hv hp 129 true (st0 E) (st0_in A.n1) (fun h => by cases h) (fun _ => by omega)
  obtain ⟨h1, h2, h3, _⟩ := h (st0 E).V (st0 E).X (st0 E).T
  refine ⟨h1.V, h1.X, h1.T, fun k hk hf => ?_, h3, fun V' X' T' hV hX hT hF hS => ?_⟩
  · have := h2 k hf
    show (((lowR E f 129 true (st0 E)).V k : Nat) : Int) = _
    rw [this]
    show ((v0 E k : Nat) : Int) = _
    have hf' : 0 ≤ fixV (bt E.s) E.n k := hf
    unfold v0
    rw [if_pos hf']
    show (((fixV (bt E.s) E.n k).toNat : Nat) : Int) = fixV (bt E.s) E.n k
    omega
  · refine (h V' X' T').2.2.2 (fun k hk => ?_) (fun k hk => A.bl (hX k hk)) (fun k hk => A.bl (hT k hk)) hS
    show Le E.R E.n (v0 E k) (V' k)
    unfold v0
    split
    · rename_i hf
      have := hF k hk hf
      have e : (fixV (bt E.s) E.n k).toNat = V' k := by
        have h5 : (V' k : Int) = fixV (bt E.s) E.n k := this
        omega
      rw [e]
      exact A.refl (hV k hk)
    · exact A.bl (hV k hk)

/-- There is one lowest labelling. -/
theorem LowOk.uniq (A : Lat E.n E.R) (h : LowOk E f V X T) (h' : LowOk E f V' X' T') : (∀ k, k < E.nv → V k = V' k) ∧ (∀ k, k < E.np → X k = X' k) ∧ ∀ k, k < E.np → T k = T' k := by
  obtain ⟨a1, a2, a3⟩ := h.least V' X' T' h'.iv h'.ix h'.it h'.fx h'.soft
  obtain ⟨b1, b2, b3⟩ := h'.least V X T h.iv h.ix h.it h.fx h.soft
  exact ⟨fun k hk => A.anti (a1 k hk) (b1 k hk), fun k hk => A.anti (a2 k hk) (b2 k hk), fun k hk => A.anti (a3 k hk) (b3 k hk)⟩

/-- Higher labels: each demand of the program is of no less. -/
theorem allD_mono (A : Lat E.n E.R) (Q : Parts E f) (hV : Bel E.R E.n E.nv V V') (hX : Bel E.R E.n E.np X X') (hT : Bel E.R E.n E.np T T') : ∀ k, k ≤ E.np → DmB E.R E.n (allD E f V X T k) (allD E f V' X' T' k) := by
  intro k
  induction k with
  | zero =>
    intro _
    obtain ⟨j, hj⟩ := Q.main
    exact (wd_mono (c := bt E.s) A hV hT f E.main _ _ j hj (A.refl (bot_lt A.n1))).2.2.2
  | succ k ih =>
    intro hk
    obtain ⟨m, j, em, hj⟩ := Q.proc k (by omega)
    have em' : (E.P k).toNat = m := by omega
    refine (ih (by omega)).app ?_
    unfold tdP
    rw [em']
    exact (wd_mono (c := bt E.s) A hV hT f m _ _ j hj (hX k (by omega))).2.2.2
theorem allD_in (A : Lat E.n E.R) (Q : Parts E f) (hV : ∀ k, k < E.nv → V k < E.n) (hX : ∀ k, k < E.np → X k < E.n) (hT : ∀ k, k < E.np → T k < E.n) : ∀ k, k ≤ E.np → ∀ d ∈ allD E f V X T k, d.a < E.n ∧ TgOk E.n E.nv E.np d.tg := by
  intro k
  induction k with
  | zero =>
    intro _
    obtain ⟨j, hj⟩ := Q.main
    exact (wd_ok (c := bt E.s) A.L A.n1 hV hT f E.main _ j hj (bot_lt A.n1)).2.2
  | succ k ih =>
    intro hk d hd
    obtain ⟨m, j, em, hj⟩ := Q.proc k (by omega)
    have em' : (E.P k).toNat = m := by omega
    rcases List.mem_append.1 hd with hd | hd
    · exact ih (by omega) d hd
    · unfold tdP at hd
      rw [em'] at hd
      exact (wd_ok (c := bt E.s) A.L A.n1 hV hT f m _ j hj (hX k (by omega))).2.2 d hd
theorem tdP_in (A : Lat E.n E.R) (Q : Parts E f) (hV : ∀ k, k < E.nv → V k < E.n) (hX : ∀ k, k < E.np → X k < E.n) (hT : ∀ k, k < E.np → T k < E.n) {k : Nat} (hk : k < E.np) : (tdP E f V X T k).2.1 < E.n := by
  obtain ⟨m, j, em, hj⟩ := Q.proc k hk
  have em' : (E.P k).toNat = m := by omega
  unfold tdP
  rw [em']
  exact (wd_ok (c := bt E.s) A.L A.n1 hV hT f m _ j hj (hX k hk)).2.1
theorem tgv_in (hV : ∀ k, k < E.nv → V k < E.n) (hX : ∀ k, k < E.np → X k < E.n) {tg : Tgt} (h : TgOk E.n E.nv E.np tg) : tgv V X tg < E.n := by
  cases tg with
  | lev d => exact h
  | var v => exact hV v h
  | ctx k => exact hX k h
/-- What fits is met by raising. -/
theorem FitW.soft (A : Lat E.n E.R) (Q : Parts E f) (hV : ∀ k, k < E.nv → V k < E.n) (hX : ∀ k, k < E.np → X k < E.n) (hT : ∀ k, k < E.np → T k < E.n) (h : FitW E f V X T) : SoftW E f V X T := by
  refine ⟨fun d hd _ => ?_, fun k hk => A.of_jn' (tdP_in A Q hV hX hT hk) (hT k hk) (h.thr k hk)⟩
  have := allD_in A Q hV hX hT E.np (Nat.le_refl _) d hd
  exact ⟨h.dem d hd, this.1, tgv_in hV hX this.2⟩
/-- Where some labelling fits, the lowest does. -/
theorem LowOk.fit (A : Lat E.n E.R) (Q : Parts E f) (h : LowOk E f V X T) (hV : ∀ k, k < E.nv → V' k < E.n) (hX : ∀ k, k < E.np → X' k < E.n) (hT : ∀ k, k < E.np → T' k < E.n) (hF : Fixd E V') (hf : FitW E f V' X' T') :
    FitW E f V X T ∧ Bel E.R E.n E.nv V V' ∧ Bel E.R E.n E.np X X' ∧ Bel E.R E.n E.np T T' := by
  obtain ⟨b1, b2, b3⟩ := h.least V' X' T' hV hX hT hF (hf.soft A Q hV hX hT)
  refine ⟨⟨fun d hd => ?_, fun k hk => A.jn_eq' (h.soft.thr k hk)⟩, b1, b2, b3⟩
  have hin := allD_in A Q h.iv h.ix h.it E.np (Nat.le_refl _) d hd
  have hin2 := hin.2
  obtain ⟨e, he, e1, _, e3⟩ := allD_mono A Q b1 b2 b3 E.np (Nat.le_refl _) d hd
  have hd2 := hf.dem e he
  have hle : Le E.R E.n d.a (tgv V' X' d.tg) := by
    have h2 := tgv_in (V := V') (X := X') hV hX hin2
    exact A.trans e3 ⟨by rw [← e1]; exact hd2, e3.2.2, h2⟩
  cases et : d.tg with
  | lev x => rw [et] at hle; exact hle.1
  | ctx k => have := h.soft.dem d hd (by rw [et]; exact trivial); rw [et] at this; exact this.1
  | var v =>
    by_cases hs : fxE E v < 0
    · have := h.soft.dem d hd (by rw [et]; exact hs)
      rw [et] at this; exact this.1
    · rw [et] at hin2 hle
      have h1 := h.fx v hin2 (by omega)
      have h2 := hF v hin2 (by omega)
      have e : V v = V' v := by omega
      show E.R d.a (V v) = true
      rw [e]
      exact hle.1
/-- The lowest fits where no demand of it fails. -/
theorem LowOk.fits (A : Lat E.n E.R) (h : LowOk E f V X T) (hb : bdF E.R V X (allD E f V X T E.np) (-1) < 0) : FitW E f V X T :=
  ⟨(bdF_neg _ _ (by omega)).1 hb, fun k hk => A.jn_eq' (h.soft.thr k hk)⟩
end

end Go.Proofs.YtfcflnnleadpkaaGreat

namespace Go.Proofs.YtfcflnnleadpkaaGreat

/-! Programs at work. -/

/-- Where an expression, a statement ends. -/
def skE (c : Nat → Int) : Nat → Nat → Nat
  | 0, i => i
  | f + 1, i => if isOp (c i) = true then skE c f (skE c f (i + 1)) else i + 1
def skS (c : Nat → Int) : Nat → Nat → Nat
  | 0, i => i
  | f + 1, i =>
    if c i = 44 ∨ c i = 116 then skS c f (skS c f (i + 1))
    else if c i = 61 then skE c f (i + 2)
    else if c i = 105 then skS c f (skS c f (skE c f (i + 1)))
    else if c i = 119 then skS c f (skE c f (i + 1))
    else if c i = 114 then i + 3
    else if c i = 111 then skE c f (i + 2)
    else if c i = 99 then i + 2
    else i + 1
/-- What an operation comes to. -/
def opV (o : Int) (a b : Nat) : Option Nat :=
  if o = 43 then some ((a + b) % 65536) else if o = 45 then some ((a + 65536 - b) % 65536) else if o = 42 then some (a * b % 65536)
  else if o = 47 then (if b = 0 then none else some (a / b)) else some (if a < b then 1 else 0)
def bindV (x : Option Nat) (g : Nat → Option Nat) : Option Nat := match x with | none => none | some a => g a
/-- An expression's value; none: it throws. -/
def evE (c : Nat → Int) (V : Nat → Nat) : Nat → Nat → Option Nat
  | 0, _ => none
  | f + 1, i =>
    if isOp (c i) = true then bindV (evE c V f (i + 1)) (fun a => bindV (evE c V f (skE c f (i + 1))) (fun b => opV (c i) a b))
    else if isDB (c i) 10 = true then some (c i - 48).toNat
    else some (V (c i - 97).toNat)

/-- A program at work: the variables, how many numbers were taken of each input, what was put out, the fuel. -/
structure RS where
  V : Nat → Nat
  tk : Nat → Nat
  out : List (Nat × Nat)
  fuel : Nat
/-- A loop, whose first piece of fuel was taken: 0, spent; 1, it went on; 2, it threw. -/
def lpW (run : RS → RS × Nat) (ev : (Nat → Nat) → Option Nat) : Nat → RS → RS × Nat
  | 0, st => match ev st.V with
    | none => (st, 2)
    | some v => if v = 0 then (st, 1) else if (run st).2 = 1 then ((run st).1, 0) else run st
  | g + 1, st => match ev st.V with
    | none => (st, 2)
    | some v => if v = 0 then (st, 1) else if (run st).2 = 1 then (if (run st).1.fuel = 0 then ((run st).1, 0) else lpW run ev g { (run st).1 with fuel := (run st).1.fuel - 1 }) else run st
def setW (st : RS) (v : Nat) (x : Option Nat) : RS × Nat := match x with
  | none => (st, 2)
  | some y => ({ st with V := setF st.V v y }, 1)
def outW (st : RS) (d : Nat) (x : Option Nat) : RS × Nat := match x with
  | none => (st, 2)
  | some y => ({ st with out := st.out ++ [(d, y)] }, 1)
def rdW (st : RS) (d v : Nat) (x : Option Nat) : RS × Nat := match x with
  | none => (st, 2)
  | some y => ({ st with V := setF st.V v y, tk := setF st.tk d (st.tk d + 1) }, 1)
def ifW (st : RS) (x : Option Nat) (a b : RS → RS × Nat) : RS × Nat := match x with
  | none => (st, 2)
  | some y => if y = 0 then b st else a st
def thenW (e : Nat) (r : RS × Nat) (g : RS → RS × Nat) : RS × Nat := if r.2 = e then g r.1 else r
def dec (st : RS) : RS := { st with fuel := st.fuel - 1 }

section
variable (c : Nat → Int) (inp : Nat → List Nat) (P : Nat → Nat) (F : Nat)
/-- A statement at work, k calls being made. -/
def exS : Nat → Nat → Nat → RS → RS × Nat
  | 0, _, _, st => (st, 0)
  | g + 1, i, k, st =>
    if st.fuel = 0 then (st, 0)
    else if c i = 44 then thenW 1 (exS g (i + 1) k (dec st)) (exS g (skS c F (i + 1)) k)
    else if c i = 116 then thenW 2 (exS g (i + 1) k (dec st)) (exS g (skS c F (i + 1)) k)
    else if c i = 61 then setW (dec st) (c (i + 1) - 97).toNat (evE c st.V F (i + 2))
    else if c i = 105 then ifW (dec st) (evE c st.V F (i + 1)) (exS g (skE c F (i + 1)) k) (exS g (skS c F (skE c F (i + 1))) k)
    else if c i = 119 then lpW (exS g (skE c F (i + 1)) k) (fun V => evE c V F (i + 1)) g (dec st)
    else if c i = 114 then rdW (dec st) (c (i + 1) - 48).toNat (c (i + 2) - 97).toNat ((inp (c (i + 1) - 48).toNat)[st.tk (c (i + 1) - 48).toNat]?)
    else if c i = 111 then outW (dec st) (c (i + 1) - 48).toNat (evE c st.V F (i + 2))
    else if c i = 120 then (dec st, 2)
    else if c i = 99 then (if 8 ≤ k then (dec st, 2) else exS g (P (c (i + 1) - 48).toNat) (k + 1) (dec st))
    else (dec st, 1)
end

section
variable {c : Nat → Int} {nv n np : Nat} {R : Nat → Nat → Bool} {V U W : Nat → Nat}

theorem skE_of : ∀ (f i j F : Nat), scE c nv f i = (j, false) → f ≤ F → skE c F i = j := by
  intro f
  induction f with
  | zero => intro i j F h; simp [scE] at h
  | succ f ih =>
    intro i j F h hF
    obtain ⟨G, rfl⟩ : ∃ G, F = G + 1 := ⟨F - 1, by omega⟩
    simp only [skE]
    cases ho : isOp (c i)
    · obtain ⟨rfl, _⟩ := scE_inv_leaf h ho
      rfl
    · obtain ⟨k, e1, e2⟩ := scE_inv_op h ho
      rw [if_pos rfl, ih _ _ G e1 (by omega), ih _ _ G e2 (by omega)]
theorem skS_of : ∀ (f i j F : Nat), wfS c nv n np f i = (j, false) → f ≤ F → skS c F i = j := by
  intro f
  induction f with
  | zero => intro i j F h; simp [wfS] at h
  | succ f ih =>
    intro i j F h hF
    obtain ⟨G, rfl⟩ : ∃ G, F = G + 1 := ⟨F - 1, by omega⟩
    simp only [skS]
    rcases wfS_letter h with hc | hc | hc | hc | hc | hc | hc | hc
    · have := wfS_inv_plain h hc
      rw [if_neg (by omega), if_neg (by omega), if_neg (by omega), if_neg (by omega), if_neg (by omega), if_neg (by omega), if_neg (by omega), this]
    · obtain ⟨k, e1, e2⟩ := wfS_inv_seq h hc
      rw [if_pos hc, ih _ _ G e1 (by omega), ih _ _ G e2 (by omega)]
    · obtain ⟨_, e2⟩ := wfS_inv_eq h hc
      rw [if_neg (by omega), if_pos hc]; exact skE_of f _ _ G e2 (by omega)
    · obtain ⟨k, m, e1, e2, e3⟩ := wfS_inv_i h hc
      rw [if_neg (by omega), if_neg (by omega), if_pos hc, skE_of f _ _ G e1 (by omega), ih _ _ G e2 (by omega), ih _ _ G e3 (by omega)]
    · obtain ⟨k, e1, e2⟩ := wfS_inv_w h hc
      rw [if_neg (by omega), if_neg (by omega), if_neg (by omega), if_pos hc, skE_of f _ _ G e1 (by omega), ih _ _ G e2 (by omega)]
    · obtain ⟨_, _, e3⟩ := wfS_inv_r h hc
      rw [if_neg (by omega), if_neg (by omega), if_neg (by omega), if_neg (by omega), if_pos hc, e3]
    · obtain ⟨_, e2⟩ := wfS_inv_o h hc
      rw [if_neg (by omega), if_neg (by omega), if_neg (by omega), if_neg (by omega), if_neg (by omega), if_pos hc]; exact skE_of f _ _ G e2 (by omega)
    · obtain ⟨_, e2⟩ := wfS_inv_c h hc
      rw [if_neg (by omega), if_neg (by omega), if_neg (by omega), if_neg (by omega), if_neg (by omega), if_neg (by omega), if_pos hc, e2]
/-- More of the text's fuel changes nothing. -/
theorem evE_fuel : ∀ (f i j F : Nat), scE c nv f i = (j, false) → f ≤ F → evE c U F i = evE c U f i := by
  intro f
  induction f with
  | zero => intro i j F h; simp [scE] at h
  | succ f ih =>
    intro i j F h hF
    obtain ⟨G, rfl⟩ : ∃ G, F = G + 1 := ⟨F - 1, by omega⟩
    simp only [evE]
    cases ho : isOp (c i)
    · rfl
    · obtain ⟨k, e1, e2⟩ := scE_inv_op h ho
      rw [if_pos rfl, if_pos rfl, skE_of f _ _ G e1 (by omega), skE_of f _ _ f e1 (by omega), ih _ _ G e1 (by omega), ih _ _ G e2 (by omega)]

theorem evE_op {f i : Nat} (h : isOp (c i) = true) : evE c U (f + 1) i = bindV (evE c U f (i + 1)) (fun a => bindV (evE c U f (skE c f (i + 1))) (fun b => opV (c i) a b)) := by simp only [evE]; rw [if_pos h]
theorem evE_dig {f i : Nat} (h : isOp (c i) = false) (h2 : isDB (c i) 10 = true) : evE c U (f + 1) i = some (c i - 48).toNat := by simp only [evE]; rw [if_neg (by simp [h]), if_pos h2]
theorem evE_var {f i : Nat} (h : isOp (c i) = false) (h2 : isDB (c i) 10 = false) : evE c U (f + 1) i = some (U (c i - 97).toNat) := by simp only [evE]; rw [if_neg (by simp [h]), if_neg (by simp [h2])]
theorem labE_endX : ∀ f i j, scE c nv f i = (j, false) → (labE c R n V f i).1 = j := by
  intro f
  induction f with
  | zero => intro i j h; simp [scE] at h
  | succ f ih =>
    intro i j hs
    cases ho : isOp (c i)
    · obtain ⟨rfl, h2 | ⟨h2, h3⟩⟩ := scE_inv_leaf hs ho
      · rw [labE_dig ho h2]
      · rw [labE_var ho h2]
    · obtain ⟨k, e1, e2⟩ := scE_inv_op hs ho
      rw [labE_op ho, ih _ _ e1]
      exact ih _ _ e2
theorem opV_none {o : Int} {a a' b : Nat} : opV o a b = none ↔ opV o a' b = none := by
  unfold opV
  by_cases h1 : o = 43
  · simp [h1]
  by_cases h2 : o = 45
  · simp [h2]
  by_cases h3 : o = 42
  · simp [h3]
  by_cases h4 : o = 47
  · by_cases hb : b = 0 <;> simp [h4, hb]
  · simp [h1, h2, h3, h4]
theorem opV_some {o : Int} {a b : Nat} (h : o ≠ 47) : opV o a b ≠ none := by
  unfold opV
  by_cases h1 : o = 43
  · simp [h1]
  by_cases h2 : o = 45
  · simp [h2]
  by_cases h3 : o = 42
  · simp [h3]
  · simp [h1, h2, h3, h]

theorem Lat.low_jn (A : Lat n R) {a b l : Nat} (ha : a < n) (hb : b < n) : Le R n (jn R n a b) l ↔ Le R n a l ∧ Le R n b l :=
  ⟨fun h => ⟨A.trans (A.l ha hb) h, A.trans (A.r ha hb) h⟩, fun h => A.sup h.1 h.2⟩

/-- The divisors' label is below the label. -/
theorem labE_dle (A : Lat n R) (hV : ∀ k, k < nv → V k < n) : ∀ f i j, scE c nv f i = (j, false) → Le R n (labE c R n V f i).2.2.1 (labE c R n V f i).2.1 := by
  intro f
  induction f with
  | zero => intro i j h; simp [scE] at h
  | succ f ih =>
    intro i j hs
    have hb := bot_lt (R := R) A.n1
    cases ho : isOp (c i)
    · obtain ⟨rfl, h2 | ⟨h2, h3⟩⟩ := scE_inv_leaf hs ho
      · rw [labE_dig ho h2]; exact A.refl hb
      · rw [labE_var ho h2]
        obtain ⟨k, e, hk⟩ := isVar_nat h3
        simp only
        rw [e]; exact A.bl (hV k hk)
    · obtain ⟨k, e1, e2⟩ := scE_inv_op hs ho
      have a1 := ih _ _ e1
      have b1 := ih _ _ e2
      rw [labE_op ho, (labE_ok (c := c) A.L A.n1 hV f _ _ e1).1]
      simp only
      split
      · exact A.sup (A.mono a1 b1) (A.r a1.2.2 b1.2.2)
      · exact A.mono a1 b1
/-- No division: it does not throw. -/
theorem evE_nodiv : ∀ f i j, scE c nv f i = (j, false) → (labE c R n V f i).2.2.2 = false → evE c U f i ≠ none := by
  intro f
  induction f with
  | zero => intro i j h; simp [scE] at h
  | succ f ih =>
    intro i j hs hd
    cases ho : isOp (c i)
    · obtain ⟨rfl, h2 | ⟨h2, h3⟩⟩ := scE_inv_leaf hs ho
      · rw [evE_dig ho h2]; simp
      · rw [evE_var ho h2]; simp
    · obtain ⟨k, e1, e2⟩ := scE_inv_op hs ho
      rw [labE_op ho] at hd
      simp only [Bool.or_eq_false_iff] at hd
      obtain ⟨⟨d1, d2⟩, d3⟩ := hd
      have hk : (labE c R n V f (i + 1)).1 = k := labE_endX f _ _ e1
      rw [hk] at d2
      have n1 := ih _ _ e1 d1
      have n2 := ih _ _ e2 d2
      rw [evE_op ho, skE_of f _ _ f e1 (Nat.le_refl _)]
      obtain ⟨a, ea⟩ := Option.ne_none_iff_exists'.1 n1
      obtain ⟨b, eb⟩ := Option.ne_none_iff_exists'.1 n2
      rw [ea, eb]
      exact opV_some (by intro h; rw [h] at d3; simp at d3)
/-- Two lists of values that agree on the variables below l. -/
def Agr (R : Nat → Nat → Bool) (n nv l : Nat) (V U W : Nat → Nat) : Prop := ∀ v, v < nv → Le R n (V v) l → U v = W v
theorem evE_low (A : Lat n R) (hV : ∀ k, k < nv → V k < n) {l : Nat} (hU : Agr R n nv l V U W) : ∀ f i j, scE c nv f i = (j, false) →
    (Le R n (labE c R n V f i).2.1 l → evE c U f i = evE c W f i) ∧ (Le R n (labE c R n V f i).2.2.1 l → (evE c U f i = none ↔ evE c W f i = none)) := by
  intro f
  induction f with
  | zero => intro i j h; simp [scE] at h
  | succ f ih =>
    intro i j hs
    cases ho : isOp (c i)
    · obtain ⟨rfl, h2 | ⟨h2, h3⟩⟩ := scE_inv_leaf hs ho
      · rw [evE_dig ho h2, evE_dig ho h2]; exact ⟨fun _ => rfl, fun _ => Iff.rfl⟩
      · rw [labE_var ho h2, evE_var ho h2, evE_var ho h2]
        obtain ⟨k, e, hk⟩ := isVar_nat h3
        simp only
        rw [e]
        exact ⟨fun h => congrArg some (hU k hk h), fun _ => by simp⟩
    · obtain ⟨k, e1, e2⟩ := scE_inv_op hs ho
      obtain ⟨a1, a2⟩ := ih _ _ e1
      obtain ⟨b1, b2⟩ := ih _ _ e2
      obtain ⟨x1, x2, x3⟩ := labE_ok (c := c) A.L A.n1 hV f _ _ e1
      obtain ⟨y1, y2, y3⟩ := labE_ok (c := c) A.L A.n1 hV f _ _ e2
      rw [labE_op ho, x1, evE_op ho, evE_op ho]
      simp only
      rw [skE_of f _ _ f e1 (Nat.le_refl _)]
      constructor
      · intro h
        have h := (A.low_jn x2 y2).1 h
        rw [a1 h.1, b1 h.2]
      · intro h
        have h1 : Le R n (labE c R n V f (i + 1)).2.2.1 l ∧ Le R n (labE c R n V f k).2.2.1 l ∧ (c i = 47 → Le R n (labE c R n V f k).2.1 l) := by
          split at h
          · have g := (A.low_jn (A.lt x3 y3) y2).1 h
            have g2 := (A.low_jn x3 y3).1 g.1
            exact ⟨g2.1, g2.2, fun _ => g.2⟩
          · rename_i hne
            have g2 := (A.low_jn x3 y3).1 h
            exact ⟨g2.1, g2.2, fun e => absurd e hne⟩
        have q1 := a2 h1.1
        have q2 := b2 h1.2.1
        cases ea : evE c U f (i + 1) with
        | none => rw [q1.1 ea]; exact Iff.rfl
        | some a =>
          cases ea' : evE c W f (i + 1) with
          | none => rw [q1.2 ea'] at ea; cases ea
          | some a' =>
            simp only [bindV]
            cases eb : evE c U f k with
            | none => rw [q2.1 eb]
            | some b =>
              cases eb' : evE c W f k with
              | none => rw [q2.2 eb'] at eb; cases eb
              | some b' =>
                simp only
                by_cases hd : c i = 47
                · have := b1 (h1.2.2 hd)
                  rw [eb, eb'] at this
                  injection this with this
                  subst this
                  exact opV_none
                · exact ⟨fun h => absurd h (opV_some hd), fun h => absurd h (opV_some hd)⟩
end

end Go.Proofs.YtfcflnnleadpkaaGreat

namespace Go.Proofs.YtfcflnnleadpkaaGreat

section
variable {c : Nat → Int} {nv n np : Nat} {R : Nat → Nat → Bool} {V T : Nat → Nat}

theorem Lat.ext (A : Lat n R) {a b : Nat} (ha : a < n) (hb : b < n) (h : ∀ u, Le R n a u ↔ Le R n b u) : a = b :=
  A.anti ((h b).2 (A.refl hb)) ((h a).1 (A.refl ha))
theorem Lat.jn_bot (A : Lat n R) {a : Nat} (ha : a < n) : jn R n a (bot R n) = a := A.jn_eq (A.bl ha)
theorem Lat.bot_jn (A : Lat n R) {a : Nat} (ha : a < n) : jn R n (bot R n) a = a := A.jn_eq' (A.bl ha)
/-- The bottom, or the context joined with something that does not hang on it. -/
def ThF (R : Nat → Nat → Bool) (n : Nat) (g : Nat → Nat) : Prop :=
  (∀ p, p < n → g p = bot R n) ∨ ∃ x, x < n ∧ ∀ p, p < n → g p < n ∧ ∀ u, Le R n (g p) u ↔ Le R n p u ∧ Le R n x u
/-- The context joined with something. -/
def CtF (R : Nat → Nat → Bool) (n : Nat) (h : Nat → Nat) : Prop := ∃ x, x < n ∧ ∀ p, p < n → h p < n ∧ ∀ u, Le R n (h p) u ↔ Le R n p u ∧ Le R n x u

theorem ThF.join (A : Lat n R) {g h : Nat → Nat} (hg : ThF R n g) (hh : ThF R n h) : ThF R n (fun p => jn R n (g p) (h p)) := by
  have hb := bot_lt (R := R) A.n1
  rcases hg with hg | ⟨x, hx, hg⟩
  · rcases hh with hh | ⟨y, hy, hh⟩
    · exact Or.inl (fun p hp => by simp only; rw [hg p hp, hh p hp, A.jn_bot hb])
    · exact Or.inr ⟨y, hy, fun p hp => by simp only; rw [hg p hp, A.bot_jn (hh p hp).1]; exact hh p hp⟩
  · rcases hh with hh | ⟨y, hy, hh⟩
    · exact Or.inr ⟨x, hx, fun p hp => by simp only; rw [hh p hp, A.jn_bot (hg p hp).1]; exact hg p hp⟩
    · refine Or.inr ⟨jn R n x y, A.lt hx hy, fun p hp => ⟨A.lt (hg p hp).1 (hh p hp).1, fun u => ?_⟩⟩
      rw [A.low_jn (hg p hp).1 (hh p hp).1, A.low_jn hx hy, (hg p hp).2 u, (hh p hp).2 u]
      exact ⟨fun h => ⟨h.1.1, h.1.2, h.2.2⟩, fun h => ⟨⟨h.1, h.2.1⟩, h.1, h.2.2⟩⟩
theorem ThF.comp (A : Lat n R) {g h : Nat → Nat} (hg : ThF R n g) (hh : CtF R n h) : ThF R n (fun p => g (h p)) := by
  obtain ⟨y, hy, hh⟩ := hh
  rcases hg with hg | ⟨x, hx, hg⟩
  · exact Or.inl (fun p hp => hg _ (hh p hp).1)
  · refine Or.inr ⟨jn R n y x, A.lt hy hx, fun p hp => ⟨(hg _ (hh p hp).1).1, fun u => ?_⟩⟩
    rw [(hg _ (hh p hp).1).2 u, (hh p hp).2 u, A.low_jn hy hx, and_assoc]
theorem CtF.id (A : Lat n R) : CtF R n (fun p => p) := ⟨bot R n, bot_lt A.n1, fun _ hp => ⟨hp, fun _ => ⟨fun h => ⟨h, A.bl h.2.2⟩, fun h => h.1⟩⟩⟩
theorem CtF.join (A : Lat n R) {g h : Nat → Nat} (hh : CtF R n h) (hg : ThF R n g) : CtF R n (fun p => jn R n (h p) (g p)) := by
  obtain ⟨y, hy, hh⟩ := hh
  rcases hg with hg | ⟨x, hx, hg⟩
  · exact ⟨y, hy, fun p hp => by simp only; rw [hg p hp, A.jn_bot (hh p hp).1]; exact hh p hp⟩
  · refine ⟨jn R n y x, A.lt hy hx, fun p hp => ⟨A.lt (hh p hp).1 (hg p hp).1, fun u => ?_⟩⟩
    rw [A.low_jn (hh p hp).1 (hg p hp).1, (hh p hp).2 u, (hg p hp).2 u, A.low_jn hy hx]
    exact ⟨fun h => ⟨h.1.1, h.1.2, h.2.2⟩, fun h => ⟨⟨h.1, h.2.1⟩, h.1, h.2.2⟩⟩
theorem CtF.const (A : Lat n R) {a : Nat} (ha : a < n) : CtF R n (fun p => jn R n p a) := ⟨a, ha, fun _ hp => ⟨A.lt hp ha, fun _ => A.low_jn hp ha⟩⟩
theorem ThF.ofCt {h : Nat → Nat} (hh : CtF R n h) : ThF R n h := Or.inr hh
theorem ThF.bot : ThF R n (fun _ => bot R n) := Or.inl (fun _ _ => rfl)
theorem ThF.D (A : Lat n R) {b : Bool} {d : Nat} (hd : d < n) : ThF R n (fun p => if b = true then jn R n p d else Go.Proofs.YtfcflnnleadpkaaGreat.bot R n) := by
  cases b
  · exact ThF.bot
  · exact ThF.ofCt (CtF.const A hd)
/-- Not above the context: the bottom, in any context. -/
theorem ThF.lt (A : Lat n R) {g : Nat → Nat} (h : ThF R n g) {p : Nat} (hp : p < n) : g p < n := by
  rcases h with h | ⟨x, _, h⟩
  · rw [h p hp]; exact bot_lt A.n1
  · exact (h p hp).1
/-- Joined with itself: the same. -/
theorem ThF.idem (A : Lat n R) {g : Nat → Nat} (h : ThF R n g) {p : Nat} (hp : p < n) : g (jn R n p (g p)) = g p := by
  rcases h with h | ⟨x, hx, h⟩
  · rw [h p hp, A.jn_bot hp, h p hp]
  · have h1 := h p hp
    have h2 := h (jn R n p (g p)) (A.lt hp h1.1)
    refine A.ext h2.1 h1.1 (fun u => ?_)
    rw [h2.2 u, A.low_jn hp h1.1, h1.2 u]
    exact ⟨fun h => h.1.2, fun h => ⟨⟨h.1, h⟩, h.2⟩⟩

/-- A statement's throw. -/
theorem wd_thr (A : Lat n R) (hV : ∀ k, k < nv → V k < n) (hT : ∀ k, k < np → T k < n) : ∀ (f i j : Nat), wfS c nv n np f i = (j, false) → ThF R n (fun p => (wd c R n V T f i p).2.1) := by
  intro f
  induction f with
  | zero => intro i j h; simp [wfS] at h
  | succ f ih =>
    intro i j h
    have hcond : ∀ {i j : Nat}, scE c nv f i = (j, false) → CtF R n (fun p => (condW c R n V f i p).2.1) ∧ ThF R n (fun p => (condW c R n V f i p).2.2) := by
      intro i j hs
      obtain ⟨a1, a2, a3⟩ := labE_ok (c := c) A.L A.n1 hV f i j hs
      exact ⟨CtF.const A a2, ThF.D A a3⟩
    rcases wfS_letter h with hc | hc | hc | hc | hc | hc | hc | hc
    · rcases hc with hc | hc
      · refine Or.inl (fun p hp => ?_)
        simp only; rw [wd_dot hc]
      · have := ThF.ofCt (CtF.id A)
        rcases this with h1 | ⟨x, hx, h1⟩
        · exact Or.inl (fun p hp => by simp only; rw [wd_x hc]; exact h1 p hp)
        · exact Or.inr ⟨x, hx, fun p hp => by simp only; rw [wd_x hc]; exact h1 p hp⟩
    · obtain ⟨k, e1, e2⟩ := wfS_inv_seq h hc
      have h1 := ih _ _ e1
      have h2 := ih _ _ e2
      have hctx := (CtF.id A).join A h1
      have h3 := h2.comp A hctx
      have e : ∀ p, p < n → (wd c R n V T (f + 1) i p).2.1 = if c i = 44 then jn R n (wd c R n V T f (i + 1) p).2.1 (wd c R n V T f k (jn R n p (wd c R n V T f (i + 1) p).2.1)).2.1 else (wd c R n V T f k (jn R n p (wd c R n V T f (i + 1) p).2.1)).2.1 := by
        intro p hp
        rw [wd_seq hc]
        simp only
        rw [(wd_ok (c := c) A.L A.n1 hV hT f (i + 1) p k e1 hp).1]
      have h4 : ThF R n (fun p => if c i = 44 then jn R n (wd c R n V T f (i + 1) p).2.1 (wd c R n V T f k (jn R n p (wd c R n V T f (i + 1) p).2.1)).2.1 else (wd c R n V T f k (jn R n p (wd c R n V T f (i + 1) p).2.1)).2.1) := by
        by_cases h44 : c i = 44
        · simp only [if_pos h44]; exact h1.join A h3
        · simp only [if_neg h44]; exact h3
      rcases h4 with h5 | ⟨x, hx, h5⟩
      · exact Or.inl (fun p hp => (e p hp).trans (h5 p hp))
      · exact Or.inr ⟨x, hx, fun p hp => by simp only; rw [e p hp]; exact h5 p hp⟩
    · obtain ⟨e1, e2⟩ := wfS_inv_eq h hc
      have h1 := (hcond e2).2
      have e : ∀ p, (wd c R n V T (f + 1) i p).2.1 = (condW c R n V f (i + 2) p).2.2 := fun p => by rw [wd_eq hc]
      simp only [e]; exact h1
    · obtain ⟨k, m, e1, e2, e3⟩ := wfS_inv_i h hc
      obtain ⟨c1, c2⟩ := hcond e1
      have h1 := (ih _ _ e2).comp A c1
      have h2 := (ih _ _ e3).comp A c1
      have h4 := c2.join A (h1.join A h2)
      have e : ∀ p, p < n → (wd c R n V T (f + 1) i p).2.1 = jn R n (condW c R n V f (i + 1) p).2.2 (jn R n (wd c R n V T f k (condW c R n V f (i + 1) p).2.1).2.1 (wd c R n V T f m (condW c R n V f (i + 1) p).2.1).2.1) := by
        intro p hp
        obtain ⟨a1, a2, a3⟩ := condW_ok (c := c) A.L A.n1 hV hp e1
        rw [wd_i hc]
        simp only
        rw [a1, (wd_ok (c := c) A.L A.n1 hV hT f k _ m e2 a2).1]
      rcases h4 with h5 | ⟨x, hx, h5⟩
      · exact Or.inl (fun p hp => (e p hp).trans (h5 p hp))
      · exact Or.inr ⟨x, hx, fun p hp => by simp only; rw [e p hp]; exact h5 p hp⟩
    · obtain ⟨k, e1, e2⟩ := wfS_inv_w h hc
      obtain ⟨c1, c2⟩ := hcond e1
      have h4 := c2.join A ((ih _ _ e2).comp A (c1.join A c2))
      have e : ∀ p, p < n → (wd c R n V T (f + 1) i p).2.1 = jn R n (condW c R n V f (i + 1) p).2.2 (wd c R n V T f k (jn R n (condW c R n V f (i + 1) p).2.1 (condW c R n V f (i + 1) p).2.2)).2.1 := by
        intro p hp
        obtain ⟨a1, a2, a3⟩ := condW_ok (c := c) A.L A.n1 hV hp e1
        rw [wd_w hc]
        simp only
        rw [a1]
      rcases h4 with h5 | ⟨x, hx, h5⟩
      · exact Or.inl (fun p hp => (e p hp).trans (h5 p hp))
      · exact Or.inr ⟨x, hx, fun p hp => by simp only; rw [e p hp]; exact h5 p hp⟩
    · obtain ⟨e1, e2, rfl⟩ := wfS_inv_r h hc
      obtain ⟨d, ed, hd⟩ := isDB_nat e1
      have e : ∀ p, (wd c R n V T (f + 1) i p).2.1 = jn R n p d := fun p => by rw [wd_r hc, ed]; rfl
      simp only [e]; exact ThF.ofCt (CtF.const A hd)
    · obtain ⟨e1, e2⟩ := wfS_inv_o h hc
      have h1 := (hcond e2).2
      have e : ∀ p, (wd c R n V T (f + 1) i p).2.1 = (condW c R n V f (i + 2) p).2.2 := fun p => by rw [wd_o hc]
      simp only [e]; exact h1
    · obtain ⟨e1, rfl⟩ := wfS_inv_c h hc
      obtain ⟨d, ed, hd⟩ := isDB_nat e1
      have e : ∀ p, (wd c R n V T (f + 1) i p).2.1 = jn R n p (T d) := fun p => by rw [wd_c hc, ed]; rfl
      simp only [e]; exact ThF.ofCt (CtF.const A (hT d hd))
end

end Go.Proofs.YtfcflnnleadpkaaGreat

namespace Go.Proofs.YtfcflnnleadpkaaGreat

/-- What a run does to a state: it puts out more, takes more; each takes fuel. -/
structure Grow (st r : RS) : Prop where
  out : ∃ l, r.out = st.out ++ l ∧ l.length + r.fuel ≤ st.fuel
  tk : ∀ d, st.tk d ≤ r.tk d ∧ r.tk d + r.fuel ≤ st.tk d + st.fuel
theorem Grow.refl (st : RS) : Grow st st := ⟨⟨[], by simp, by simp⟩, fun _ => ⟨Nat.le_refl _, Nat.le_refl _⟩⟩
theorem Grow.trans {a b d : RS} (h : Grow a b) (k : Grow b d) : Grow a d := by
  obtain ⟨l, e1, l1⟩ := h.out
  obtain ⟨m, e2, l2⟩ := k.out
  refine ⟨⟨l ++ m, by rw [e2, e1, List.append_assoc], by simp; omega⟩, fun x => ?_⟩
  have h1 := h.tk x
  have h2 := k.tk x
  omega
theorem Grow.dec (st : RS) : Grow st (dec st) := ⟨⟨[], by simp [Go.Proofs.YtfcflnnleadpkaaGreat.dec], by simp [Go.Proofs.YtfcflnnleadpkaaGreat.dec]⟩, fun d => by simp [Go.Proofs.YtfcflnnleadpkaaGreat.dec]⟩
theorem Grow.fuel {a b : RS} (h : Grow a b) : b.fuel ≤ a.fuel := by obtain ⟨l, _, h2⟩ := h.out; omega

theorem lpW_grow {run : RS → RS × Nat} {ev : (Nat → Nat) → Option Nat} (h : ∀ st, Grow st (run st).1) : ∀ g st, Grow st (lpW run ev g st).1 := by
  intro g
  induction g with
  | zero =>
    intro st
    simp only [lpW]
    split
    · exact Grow.refl _
    · split
      · exact Grow.refl _
      · split
        · exact h st
        · exact h st
  | succ g ih =>
    intro st
    simp only [lpW]
    split
    · exact Grow.refl _
    · split
      · exact Grow.refl _
      · split
        · split
          · exact h st
          · exact (h st).trans ((Grow.dec _).trans (ih _))
        · exact h st

section
variable {c : Nat → Int} {inp : Nat → List Nat} {P : Nat → Nat} {F : Nat} {g i k : Nat} {st : RS}

theorem exS_spent (h : st.fuel = 0) : exS c inp P F g i k st = (st, 0) := by
  cases g with
  | zero => rfl
  | succ g => simp only [exS]; rw [if_pos h]
theorem exS_seq (h : st.fuel ≠ 0) (hc : c i = 44) : exS c inp P F (g + 1) i k st = thenW 1 (exS c inp P F g (i + 1) k (dec st)) (exS c inp P F g (skS c F (i + 1)) k) := by
  simp only [exS]; rw [if_neg h, if_pos hc]
theorem exS_t (h : st.fuel ≠ 0) (hc : c i = 116) : exS c inp P F (g + 1) i k st = thenW 2 (exS c inp P F g (i + 1) k (dec st)) (exS c inp P F g (skS c F (i + 1)) k) := by
  simp only [exS]; rw [if_neg h, if_neg (by omega), if_pos hc]
theorem exS_eq (h : st.fuel ≠ 0) (hc : c i = 61) : exS c inp P F (g + 1) i k st = setW (dec st) (c (i + 1) - 97).toNat (evE c st.V F (i + 2)) := by
  simp only [exS]; rw [if_neg h, if_neg (by omega), if_neg (by omega), if_pos hc]
theorem exS_i (h : st.fuel ≠ 0) (hc : c i = 105) : exS c inp P F (g + 1) i k st = ifW (dec st) (evE c st.V F (i + 1)) (exS c inp P F g (skE c F (i + 1)) k) (exS c inp P F g (skS c F (skE c F (i + 1))) k) := by
  simp only [exS]; rw [if_neg h, if_neg (by omega), if_neg (by omega), if_neg (by omega), if_pos hc]
theorem exS_w (h : st.fuel ≠ 0) (hc : c i = 119) : exS c inp P F (g + 1) i k st = lpW (exS c inp P F g (skE c F (i + 1)) k) (fun V => evE c V F (i + 1)) g (dec st) := by
  simp only [exS]; rw [if_neg h, if_neg (by omega), if_neg (by omega), if_neg (by omega), if_neg (by omega), if_pos hc]
theorem exS_r (h : st.fuel ≠ 0) (hc : c i = 114) : exS c inp P F (g + 1) i k st = rdW (dec st) (c (i + 1) - 48).toNat (c (i + 2) - 97).toNat ((inp (c (i + 1) - 48).toNat)[st.tk (c (i + 1) - 48).toNat]?) := by
  simp only [exS]; rw [if_neg h, if_neg (by omega), if_neg (by omega), if_neg (by omega), if_neg (by omega), if_neg (by omega), if_pos hc]
theorem exS_o (h : st.fuel ≠ 0) (hc : c i = 111) : exS c inp P F (g + 1) i k st = outW (dec st) (c (i + 1) - 48).toNat (evE c st.V F (i + 2)) := by
  simp only [exS]; rw [if_neg h, if_neg (by omega), if_neg (by omega), if_neg (by omega), if_neg (by omega), if_neg (by omega), if_neg (by omega), if_pos hc]
theorem exS_x (h : st.fuel ≠ 0) (hc : c i = 120) : exS c inp P F (g + 1) i k st = (dec st, 2) := by
  simp only [exS]; rw [if_neg h, if_neg (by omega), if_neg (by omega), if_neg (by omega), if_neg (by omega), if_neg (by omega), if_neg (by omega), if_neg (by omega), if_pos hc]
theorem exS_c (h : st.fuel ≠ 0) (hc : c i = 99) : exS c inp P F (g + 1) i k st = if 8 ≤ k then (dec st, 2) else exS c inp P F g (P (c (i + 1) - 48).toNat) (k + 1) (dec st) := by
  simp only [exS]; rw [if_neg h, if_neg (by omega), if_neg (by omega), if_neg (by omega), if_neg (by omega), if_neg (by omega), if_neg (by omega), if_neg (by omega), if_neg (by omega), if_pos hc]
theorem exS_no (h : st.fuel ≠ 0) (h1 : c i ≠ 44) (h2 : c i ≠ 116) (h3 : c i ≠ 61) (h4 : c i ≠ 105) (h5 : c i ≠ 119) (h6 : c i ≠ 114) (h7 : c i ≠ 111) (h8 : c i ≠ 120) (h9 : c i ≠ 99) : exS c inp P F (g + 1) i k st = (dec st, 1) := by
  simp only [exS]; rw [if_neg h, if_neg h1, if_neg h2, if_neg h3, if_neg h4, if_neg h5, if_neg h6, if_neg h7, if_neg h8, if_neg h9]

theorem exS_grow : ∀ (g i k : Nat) (st : RS), Grow st (exS c inp P F g i k st).1 := by
  intro g
  induction g with
  | zero => intro i k st; exact Grow.refl _
  | succ g ih =>
    intro i k st
    by_cases hf : st.fuel = 0
    · rw [exS_spent hf]; exact Grow.refl _
    have hd := Grow.dec st
    by_cases h1 : c i = 44
    · rw [exS_seq hf h1]; unfold thenW
      split
      · exact (hd.trans (ih _ _ _)).trans (ih _ _ _)
      · exact hd.trans (ih _ _ _)
    by_cases h2 : c i = 116
    · rw [exS_t hf h2]; unfold thenW
      split
      · exact (hd.trans (ih _ _ _)).trans (ih _ _ _)
      · exact hd.trans (ih _ _ _)
    by_cases h3 : c i = 61
    · rw [exS_eq hf h3]; unfold setW
      split
      · exact hd
      · exact ⟨hd.out, hd.tk⟩
    by_cases h4 : c i = 105
    · rw [exS_i hf h4]; unfold ifW
      split
      · exact hd
      · split
        · exact hd.trans (ih _ _ _)
        · exact hd.trans (ih _ _ _)
    by_cases h5 : c i = 119
    · rw [exS_w hf h5]; exact hd.trans (lpW_grow (fun st => ih _ _ st) _ _)
    by_cases h6 : c i = 114
    · rw [exS_r hf h6]; unfold rdW
      split
      · exact hd
      · refine ⟨hd.out, fun d => ?_⟩
        simp only [dec, setF]
        split
        · rename_i e; subst e; omega
        · omega
    by_cases h7 : c i = 111
    · rw [exS_o hf h7]; unfold outW
      split
      · exact hd
      · exact ⟨⟨[_], rfl, by simp [dec]; omega⟩, hd.tk⟩
    by_cases h8 : c i = 120
    · rw [exS_x hf h8]; exact hd
    by_cases h9 : c i = 99
    · rw [exS_c hf h9]
      split
      · exact hd
      · exact hd.trans (ih _ _ _)
    rw [exS_no hf h1 h2 h3 h4 h5 h6 h7 h8 h9]; exact hd
end

section
variable {c : Nat → Int} {nv n np : Nat} {R : Nat → Nat → Bool} {V X T : Nat → Nat} {inp : Nat → List Nat} {P : Nat → Nat} {F : Nat}

theorem lpW_calm {run : RS → RS × Nat} {ev : (Nat → Nat) → Option Nat} (h : ∀ st, (run st).2 ≠ 2) (he : ∀ V, ev V ≠ none) : ∀ g st, (lpW run ev g st).2 ≠ 2 := by
  intro g
  induction g with
  | zero =>
    intro st
    simp only [lpW]
    split
    · rename_i e; exact absurd e (he _)
    · split
      · simp
      · split
        · simp
        · exact h st
  | succ g ih =>
    intro st
    simp only [lpW]
    split
    · rename_i e; exact absurd e (he _)
    · split
      · simp
      · split
        · split
          · simp
          · exact ih _
        · exact h st
/-- A throw that is not above the context: none is thrown. -/
theorem exS_calm (A : Lat n R) (hV : ∀ k, k < nv → V k < n) (hT : ∀ k, k < np → T k < n) : ∀ (g f i j k p : Nat) (st : RS), wfS c nv n np f i = (j, false) → f ≤ F → p < n →
    ¬ Le R n p (wd c R n V T f i p).2.1 → (exS c inp P F g i k st).2 ≠ 2 := by
  intro g
  induction g with
  | zero => intro f i j k p st _ _ _ _; simp [exS]
  | succ g ih =>
    intro f i j k p st h hF hp hn
    by_cases hf : st.fuel = 0
    · rw [exS_spent hf]; simp
    cases f with
    | zero => simp [wfS] at h
    | succ f =>
      rcases wfS_letter h with hc | hc | hc | hc | hc | hc | hc | hc
      · rcases hc with hc | hc
        · rw [exS_no hf (by omega) (by omega) (by omega) (by omega) (by omega) (by omega) (by omega) (by omega) (by omega)]; simp
        · rw [wd_x hc] at hn; exact absurd (A.refl hp) hn
      · obtain ⟨m, e1, e2⟩ := wfS_inv_seq h hc
        obtain ⟨a1, a2, a3⟩ := wd_ok (c := c) A.L A.n1 hV hT f (i + 1) p m e1 hp
        have hctx := A.lt hp a2
        obtain ⟨b1, b2, b3⟩ := wd_ok (c := c) A.L A.n1 hV hT f m _ j e2 hctx
        have hsk := skS_of f (i + 1) m F e1 (by omega)
        rw [wd_seq hc] at hn
        simp only at hn
        rw [a1] at hn
        have h2 : ¬ Le R n (jn R n p (wd c R n V T f (i + 1) p).2.1) (wd c R n V T f m (jn R n p (wd c R n V T f (i + 1) p).2.1)).2.1 := by
          intro hle
          refine hn ?_
          have h3 := A.trans (A.l hp a2) hle
          split
          · exact A.trans h3 (A.r a2 b2)
          · exact h3
        rcases hc with hc | hc
        · rw [exS_seq hf hc, hsk]
          unfold thenW
          split
          · exact ih f m j k _ _ e2 (by omega) hctx h2
          · refine ih f (i + 1) m k p _ e1 (by omega) hp (fun hle => hn ?_)
            rw [if_pos hc]
            exact A.trans hle (A.l a2 b2)
        · rw [exS_t hf hc, hsk]
          unfold thenW
          split
          · exact ih f m j k _ _ e2 (by omega) hctx h2
          · rename_i hne; exact hne
      · obtain ⟨e1, e2⟩ := wfS_inv_eq h hc
        rw [exS_eq hf hc, evE_fuel f _ _ F e2 (by omega)]
        rw [wd_eq hc] at hn
        cases hd : (labE c R n V f (i + 2)).2.2.2
        · have := evE_nodiv (R := R) (n := n) (V := V) (U := st.V) f _ _ e2 hd
          unfold setW
          split
          · rename_i e; exact absurd e this
          · simp
        · refine absurd ?_ hn
          simp only [condW, hd, if_true]
          exact A.l hp (labE_ok (c := c) A.L A.n1 hV f _ _ e2).2.2
      · obtain ⟨m, q, e1, e2, e3⟩ := wfS_inv_i h hc
        obtain ⟨a1, a2, a3⟩ := condW_ok (c := c) A.L A.n1 hV hp e1
        have hq : Le R n p (condW c R n V f (i + 1) p).2.1 := A.l hp (labE_ok (c := c) A.L A.n1 hV f _ _ e1).2.1
        obtain ⟨b1, b2, b3⟩ := wd_ok (c := c) A.L A.n1 hV hT f m _ q e2 a2
        obtain ⟨d1, d2, d3⟩ := wd_ok (c := c) A.L A.n1 hV hT f q _ j e3 a2
        rw [exS_i hf hc, evE_fuel f _ _ F e1 (by omega), skE_of f _ _ F e1 (by omega), skS_of f _ _ F e2 (by omega)]
        rw [wd_i hc] at hn
        simp only at hn
        rw [a1, b1] at hn
        cases hd : (labE c R n V f (i + 1)).2.2.2
        · have := evE_nodiv (R := R) (n := n) (V := V) (U := st.V) f _ _ e1 hd
          unfold ifW
          split
          · rename_i e; exact absurd e this
          · split
            · exact ih f q j k _ _ e3 (by omega) a2 (fun hle => hn (A.trans (A.trans (A.trans hq hle) (A.r b2 d2)) (A.r a3 (A.lt b2 d2))))
            · exact ih f m q k _ _ e2 (by omega) a2 (fun hle => hn (A.trans (A.trans (A.trans hq hle) (A.l b2 d2)) (A.r a3 (A.lt b2 d2))))
        · refine absurd ?_ hn
          have h5 : Le R n p (condW c R n V f (i + 1) p).2.2 := by
            simp only [condW, hd, if_true]
            exact A.l hp (labE_ok (c := c) A.L A.n1 hV f _ _ e1).2.2
          exact A.trans h5 (A.l a3 (A.lt b2 d2))
      · obtain ⟨m, e1, e2⟩ := wfS_inv_w h hc
        obtain ⟨a1, a2, a3⟩ := condW_ok (c := c) A.L A.n1 hV hp e1
        have hq : Le R n p (condW c R n V f (i + 1) p).2.1 := A.l hp (labE_ok (c := c) A.L A.n1 hV f _ _ e1).2.1
        have hrr := A.lt a2 a3
        obtain ⟨b1, b2, b3⟩ := wd_ok (c := c) A.L A.n1 hV hT f m _ j e2 hrr
        rw [exS_w hf hc, skE_of f _ _ F e1 (by omega)]
        rw [wd_w hc] at hn
        simp only at hn
        rw [a1] at hn
        cases hd : (labE c R n V f (i + 1)).2.2.2
        · refine lpW_calm (fun st => ih f m j k _ st e2 (by omega) hrr (fun hle => hn ?_)) (fun U => ?_) _ _
          · exact A.trans (A.trans (A.trans hq (A.l a2 a3)) hle) (A.r a3 b2)
          · rw [evE_fuel f _ _ F e1 (by omega)]
            exact evE_nodiv (R := R) (n := n) (V := V) f _ _ e1 hd
        · refine absurd ?_ hn
          have h5 : Le R n p (condW c R n V f (i + 1) p).2.2 := by
            simp only [condW, hd, if_true]
            exact A.l hp (labE_ok (c := c) A.L A.n1 hV f _ _ e1).2.2
          exact A.trans h5 (A.l a3 b2)
      · obtain ⟨e1, e2, rfl⟩ := wfS_inv_r h hc
        obtain ⟨d, ed, hd⟩ := isDB_nat e1
        rw [wd_r hc, ed] at hn
        exact absurd (A.l hp hd) hn
      · obtain ⟨e1, e2⟩ := wfS_inv_o h hc
        rw [exS_o hf hc, evE_fuel f _ _ F e2 (by omega)]
        rw [wd_o hc] at hn
        cases hd : (labE c R n V f (i + 2)).2.2.2
        · have := evE_nodiv (R := R) (n := n) (V := V) (U := st.V) f _ _ e2 hd
          unfold outW
          split
          · rename_i e; exact absurd e this
          · simp
        · refine absurd ?_ hn
          simp only [condW, hd, if_true]
          exact A.l hp (labE_ok (c := c) A.L A.n1 hV f _ _ e2).2.2
      · obtain ⟨e1, rfl⟩ := wfS_inv_c h hc
        obtain ⟨d, ed, hd⟩ := isDB_nat e1
        rw [wd_c hc, ed] at hn
        exact absurd (A.l hp (hT d hd)) hn
end

end Go.Proofs.YtfcflnnleadpkaaGreat

namespace Go.Proofs.YtfcflnnleadpkaaGreat

/-- What was put out at levels below l. -/
def seenL (R : Nat → Nat → Bool) (n l : Nat) (es : List (Nat × Nat)) : List (Nat × Nat) := es.filter (fun e => decide (e.1 < n) && R e.1 l)
/-- Two states that are the same below l. -/
structure Simi (R : Nat → Nat → Bool) (n nv l : Nat) (V : Nat → Nat) (a b : RS) : Prop where
  V : Agr R n nv l V a.V b.V
  tk : ∀ d, Le R n d l → a.tk d = b.tk d
  out : seenL R n l a.out = seenL R n l b.out
/-- All demands hold. -/
def DemH (R : Nat → Nat → Bool) (V X : Nat → Nat) (ds : List Dm) : Prop := ∀ d ∈ ds, R d.a (tgv V X d.tg) = true
/-- A labelling that fits the procedures. -/
structure FitP (c : Nat → Int) (R : Nat → Nat → Bool) (n nv np : Nat) (V X T : Nat → Nat) (P : Nat → Nat) (F : Nat) : Prop where
  iv : ∀ k, k < nv → V k < n
  ix : ∀ k, k < np → X k < n
  it : ∀ k, k < np → T k < n
  proc : ∀ k, k < np → ∃ j, wfS c nv n np F (P k) = (j, false) ∧ DemH R V X (wd c R n V T F (P k) (X k)).2.2 ∧ Le R n (wd c R n V T F (P k) (X k)).2.1 (T k)

section
variable {c : Nat → Int} {nv n np l : Nat} {R : Nat → Nat → Bool} {V X T : Nat → Nat} {inp : Nat → List Nat} {P : Nat → Nat} {F : Nat} {a b d : RS}

theorem DemH.fst {ds es : List Dm} (h : DemH R V X (ds ++ es)) : DemH R V X ds := fun d hd => h d (List.mem_append.2 (Or.inl hd))
theorem DemH.snd {ds es : List Dm} (h : DemH R V X (ds ++ es)) : DemH R V X es := fun d hd => h d (List.mem_append.2 (Or.inr hd))
theorem DemH.get {d : Dm} (h : DemH R V X [d]) : R d.a (tgv V X d.tg) = true := h d (List.mem_singleton.2 rfl)
theorem Simi.refl (a : RS) : Simi R n nv l V a a := ⟨fun _ _ _ => rfl, fun _ _ => rfl, rfl⟩
theorem Simi.symm (h : Simi R n nv l V a b) : Simi R n nv l V b a := ⟨fun v hv hl => (h.V v hv hl).symm, fun d hd => (h.tk d hd).symm, h.out.symm⟩
theorem Simi.trans (h : Simi R n nv l V a b) (k : Simi R n nv l V b d) : Simi R n nv l V a d := ⟨fun v hv hl => (h.V v hv hl).trans (k.V v hv hl), fun x hx => (h.tk x hx).trans (k.tk x hx), h.out.trans k.out⟩
theorem Simi.dec (a : RS) : Simi R n nv l V a (dec a) := ⟨fun _ _ _ => rfl, fun _ _ => rfl, rfl⟩
theorem Simi.decs (h : Simi R n nv l V a b) : Simi R n nv l V (Go.Proofs.YtfcflnnleadpkaaGreat.dec a) (Go.Proofs.YtfcflnnleadpkaaGreat.dec b) := ⟨h.V, h.tk, h.out⟩
theorem seenL_app (es fs : List (Nat × Nat)) : seenL R n l (es ++ fs) = seenL R n l es ++ seenL R n l fs := by unfold seenL; rw [List.filter_append]
theorem seenL_hi {x y : Nat} (h : ¬ Le R n x l) (hl : l < n) (es : List (Nat × Nat)) : seenL R n l (es ++ [(x, y)]) = seenL R n l es := by
  rw [seenL_app]
  have : seenL R n l [(x, y)] = [] := by
    unfold seenL
    rw [List.filter_cons_of_neg]
    · rfl
    · simp only [Bool.and_eq_true, decide_eq_true_eq]
      intro hh
      exact h ⟨hh.2, hh.1, hl⟩
  rw [this, List.append_nil]
theorem Simi.setHi {v y : Nat} (h : ¬ Le R n (V v) l) (a : RS) : Simi R n nv l V a { a with V := setF a.V v y } := by
  refine ⟨fun u hu hlu => ?_, fun _ _ => rfl, rfl⟩
  show a.V u = setF a.V v y u
  unfold setF
  split
  · rename_i e; rw [e] at hlu; exact absurd hlu h
  · rfl

theorem lpW_high {run : RS → RS × Nat} {ev : (Nat → Nat) → Option Nat} (h : ∀ st, Simi R n nv l V st (run st).1) : ∀ g st, Simi R n nv l V st (lpW run ev g st).1 := by
  intro g
  induction g with
  | zero =>
    intro st
    simp only [lpW]
    split
    · exact Simi.refl _
    · split
      · exact Simi.refl _
      · split
        · exact h st
        · exact h st
  | succ g ih =>
    intro st
    simp only [lpW]
    split
    · exact Simi.refl _
    · split
      · exact Simi.refl _
      · split
        · split
          · exact h st
          · exact (h st).trans ((Simi.dec _).trans (ih _))
        · exact h st

/-- In a context that is not below l, nothing below l is written, taken or put out. -/
theorem exS_high (A : Lat n R) (hl : l < n) (H : FitP c R n nv np V X T P F) : ∀ (g f i j k p : Nat) (st : RS), wfS c nv n np f i = (j, false) → f ≤ F → p < n → ¬ Le R n p l →
    DemH R V X (wd c R n V T f i p).2.2 → Simi R n nv l V st (exS c inp P F g i k st).1 := by
  have hV := H.iv
  have hT := H.it
  intro g
  induction g with
  | zero => intro f i j k p st _ _ _ _ _; exact Simi.refl _
  | succ g ih =>
    intro f i j k p st h hF hp hn hD
    by_cases hf : st.fuel = 0
    · rw [exS_spent hf]; exact Simi.refl _
    have hd0 : Simi R n nv l V st (dec st) := Simi.dec st
    cases f with
    | zero => simp [wfS] at h
    | succ f =>
      rcases wfS_letter h with hc | hc | hc | hc | hc | hc | hc | hc
      · rcases hc with hc | hc
        · rw [exS_no hf (by omega) (by omega) (by omega) (by omega) (by omega) (by omega) (by omega) (by omega) (by omega)]; exact hd0
        · rw [exS_x hf hc]; exact hd0
      · obtain ⟨m, e1, e2⟩ := wfS_inv_seq h hc
        obtain ⟨a1, a2, a3⟩ := wd_ok (c := c) A.L A.n1 hV hT f (i + 1) p m e1 hp
        have hctx := A.lt hp a2
        have hsk := skS_of f (i + 1) m F e1 (by omega)
        rw [wd_seq hc] at hD
        simp only at hD
        rw [a1] at hD
        have s1 := ih f (i + 1) m k p (dec st) e1 (by omega) hp hn hD.fst
        have s2 := fun st => ih f m j k _ st e2 (by omega) hctx (fun h => hn (A.trans (A.l hp a2) h)) hD.snd
        rcases hc with hc | hc
        · rw [exS_seq hf hc, hsk]
          unfold thenW
          split
          · exact hd0.trans (s1.trans (s2 _))
          · exact hd0.trans s1
        · rw [exS_t hf hc, hsk]
          unfold thenW
          split
          · exact hd0.trans (s1.trans (s2 _))
          · exact hd0.trans s1
      · obtain ⟨e1, e2⟩ := wfS_inv_eq h hc
        obtain ⟨v, ev, hv⟩ := isVar_nat e1
        rw [exS_eq hf hc, ev]
        rw [wd_eq hc, ev] at hD
        have hq : Le R n p (condW c R n V f (i + 2) p).2.1 := A.l hp (labE_ok (c := c) A.L A.n1 hV f _ _ e2).2.1
        have hh : ¬ Le R n (V v) l := fun hlow => hn (A.trans hq (A.trans ⟨hD.get, hq.2.2, hV v hv⟩ hlow))
        unfold setW
        split
        · exact hd0
        · exact hd0.trans (Simi.setHi hh _)
      · obtain ⟨m, q, e1, e2, e3⟩ := wfS_inv_i h hc
        obtain ⟨a1, a2, a3⟩ := condW_ok (c := c) A.L A.n1 hV hp e1
        have hq : Le R n p (condW c R n V f (i + 1) p).2.1 := A.l hp (labE_ok (c := c) A.L A.n1 hV f _ _ e1).2.1
        obtain ⟨b1, b2, b3⟩ := wd_ok (c := c) A.L A.n1 hV hT f m _ q e2 a2
        rw [exS_i hf hc, skE_of f _ _ F e1 (by omega), skS_of f _ _ F e2 (by omega)]
        rw [wd_i hc] at hD
        simp only at hD
        rw [a1, b1] at hD
        unfold ifW
        split
        · exact hd0
        · split
          · exact hd0.trans (ih f q j k _ _ e3 (by omega) a2 (fun h => hn (A.trans hq h)) hD.snd)
          · exact hd0.trans (ih f m q k _ _ e2 (by omega) a2 (fun h => hn (A.trans hq h)) hD.fst)
      · obtain ⟨m, e1, e2⟩ := wfS_inv_w h hc
        obtain ⟨a1, a2, a3⟩ := condW_ok (c := c) A.L A.n1 hV hp e1
        have hq : Le R n p (condW c R n V f (i + 1) p).2.1 := A.l hp (labE_ok (c := c) A.L A.n1 hV f _ _ e1).2.1
        have hrr := A.lt a2 a3
        obtain ⟨b1, b2, b3⟩ := wd_ok (c := c) A.L A.n1 hV hT f m _ j e2 hrr
        rw [exS_w hf hc, skE_of f _ _ F e1 (by omega)]
        rw [wd_w hc] at hD
        simp only at hD
        rw [a1] at hD
        exact hd0.trans (lpW_high (fun st => ih f m j k _ st e2 (by omega) (A.lt hrr b2) (fun h => hn (A.trans (A.trans hq (A.l a2 a3)) (A.trans (A.l hrr b2) h))) hD) _ _)
      · obtain ⟨e1, e2, rfl⟩ := wfS_inv_r h hc
        obtain ⟨x, ex, hx⟩ := isDB_nat e1
        obtain ⟨v, ev, hv⟩ := isVar_nat e2
        rw [exS_r hf hc, ex, ev]
        rw [wd_r hc, ex, ev] at hD
        have g1 : Le R n p x := ⟨hD ⟨i, p, .lev x⟩ (by simp), hp, hx⟩
        have g2 : Le R n (jn R n p x) (V v) := ⟨hD ⟨i, jn R n p x, .var v⟩ (by simp), A.lt hp hx, hV v hv⟩
        have hx2 : ¬ Le R n x l := fun h => hn (A.trans g1 h)
        have hv2 : ¬ Le R n (V v) l := fun h => hn (A.trans (A.l hp hx) (A.trans g2 h))
        unfold rdW
        split
        · exact hd0
        · refine hd0.trans ((Simi.setHi hv2 _).trans ⟨fun _ _ _ => rfl, fun y hy => ?_, rfl⟩)
          show (dec st).tk y = setF (dec st).tk _ _ y
          unfold setF
          split
          · rename_i e; rw [e] at hy; exact absurd hy hx2
          · rfl
      · obtain ⟨e1, e2⟩ := wfS_inv_o h hc
        obtain ⟨x, ex, hx⟩ := isDB_nat e1
        rw [exS_o hf hc, ex]
        rw [wd_o hc, ex] at hD
        have hq : Le R n p (condW c R n V f (i + 2) p).2.1 := A.l hp (labE_ok (c := c) A.L A.n1 hV f _ _ e2).2.1
        have hx2 : ¬ Le R n x l := fun h => hn (A.trans hq (A.trans ⟨hD.get, hq.2.2, hx⟩ h))
        unfold outW
        split
        · exact hd0
        · exact hd0.trans ⟨fun _ _ _ => rfl, fun _ _ => rfl, (seenL_hi hx2 hl _).symm⟩
      · obtain ⟨e1, rfl⟩ := wfS_inv_c h hc
        obtain ⟨x, ex, hx⟩ := isDB_nat e1
        rw [exS_c hf hc, ex]
        rw [wd_c hc, ex] at hD
        have g1 : Le R n p (X x) := ⟨hD.get, hp, H.ix x hx⟩
        obtain ⟨j', w1, w2, w3⟩ := H.proc x hx
        split
        · exact hd0
        · exact hd0.trans (ih F _ j' _ _ _ w1 (Nat.le_refl _) (H.ix x hx) (fun h => hn (A.trans g1 h)) w2)
end

end Go.Proofs.YtfcflnnleadpkaaGreat

namespace Go.Proofs.YtfcflnnleadpkaaGreat

section
variable {c : Nat → Int} {nv n np l : Nat} {R : Nat → Nat → Bool} {V X T : Nat → Nat} {inp inp1 inp2 : Nat → List Nat} {P : Nat → Nat} {F : Nat}

/-- How a statement ends. -/
theorem lpW_end {run : RS → RS × Nat} {ev : (Nat → Nat) → Option Nat} (h : ∀ st, (run st).2 ≤ 2) : ∀ g st, (lpW run ev g st).2 ≤ 2 := by
  intro g
  induction g with
  | zero =>
    intro st
    simp only [lpW]
    split
    · simp
    · split
      · simp
      · split
        · simp
        · exact h st
  | succ g ih =>
    intro st
    simp only [lpW]
    split
    · simp
    · split
      · simp
      · split
        · split
          · simp
          · exact ih _
        · exact h st
theorem exS_end : ∀ (g i k : Nat) (st : RS), (exS c inp P F g i k st).2 ≤ 2 := by
  intro g
  induction g with
  | zero => intro i k st; simp [exS]
  | succ g ih =>
    intro i k st
    by_cases hf : st.fuel = 0
    · rw [exS_spent hf]; simp
    by_cases h1 : c i = 44
    · rw [exS_seq hf h1]; unfold thenW
      split
      · exact ih _ _ _
      · exact ih _ _ _
    by_cases h2 : c i = 116
    · rw [exS_t hf h2]; unfold thenW
      split
      · exact ih _ _ _
      · exact ih _ _ _
    by_cases h3 : c i = 61
    · rw [exS_eq hf h3]; unfold setW
      split <;> simp
    by_cases h4 : c i = 105
    · rw [exS_i hf h4]; unfold ifW
      split
      · simp
      · split
        · exact ih _ _ _
        · exact ih _ _ _
    by_cases h5 : c i = 119
    · rw [exS_w hf h5]; exact lpW_end (fun st => ih _ _ st) _ _
    by_cases h6 : c i = 114
    · rw [exS_r hf h6]; unfold rdW
      split <;> simp
    by_cases h7 : c i = 111
    · rw [exS_o hf h7]; unfold outW
      split <;> simp
    by_cases h8 : c i = 120
    · rw [exS_x hf h8]; simp
    by_cases h9 : c i = 99
    · rw [exS_c hf h9]
      split
      · simp
      · exact ih _ _ _
    rw [exS_no hf h1 h2 h3 h4 h5 h6 h7 h8 h9]; simp

/-- Two runs side by side, of a throw t. -/
def Rel (R : Nat → Nat → Bool) (n nv l : Nat) (V : Nat → Nat) (t : Nat) (a b : RS × Nat) : Prop :=
  (Simi R n nv l V a.1 b.1 ∧ (Le R n t l → a.2 = b.2 ∨ a.2 = 0 ∨ b.2 = 0)) ∨ (a.2 = 0 ∧ seenL R n l a.1.out <+: seenL R n l b.1.out) ∨ (b.2 = 0 ∧ seenL R n l b.1.out <+: seenL R n l a.1.out)

variable {t t1 : Nat} {a b : RS × Nat}
theorem Rel.symm (h : Rel R n nv l V t a b) : Rel R n nv l V t b a := by
  rcases h with ⟨h1, h2⟩ | h | h
  · refine Or.inl ⟨h1.symm, fun hl => ?_⟩
    rcases h2 hl with h | h | h
    · exact Or.inl h.symm
    · exact Or.inr (Or.inr h)
    · exact Or.inr (Or.inl h)
  · exact Or.inr (Or.inr h)
  · exact Or.inr (Or.inl h)
theorem Rel.mono {t' : Nat} (h : Rel R n nv l V t a b) (k : Le R n t' l → Le R n t l) : Rel R n nv l V t' a b := by
  rcases h with ⟨h1, h2⟩ | h | h
  · exact Or.inl ⟨h1, fun hl => h2 (k hl)⟩
  · exact Or.inr (Or.inl h)
  · exact Or.inr (Or.inr h)
theorem Grow.seen {s r : RS} (h : Grow s r) : seenL R n l s.out <+: seenL R n l r.out := by
  obtain ⟨m, e, _⟩ := h.out
  rw [e, seenL_app]
  exact List.prefix_append _ _
theorem Simi.pre {s r q : RS} (h : Simi R n nv l V s r) (g : Grow r q) : seenL R n l s.out <+: seenL R n l q.out := by
  rw [h.out]; exact g.seen
/-- One of them is spent: what it put out is a beginning. -/
theorem Rel.left {s r : RS} {b' : RS × Nat} (h : Simi R n nv l V s r) (g : Grow r b'.1) : Rel R n nv l V t (s, 0) b' := Or.inr (Or.inl ⟨rfl, h.pre g⟩)
theorem Rel.leftP {s r : RS} {b' : RS × Nat} (h : seenL R n l s.out <+: seenL R n l r.out) (g : Grow r b'.1) : Rel R n nv l V t (s, 0) b' := Or.inr (Or.inl ⟨rfl, h.trans g.seen⟩)

theorem thenW_no {e : Nat} {r : RS × Nat} {g : RS → RS × Nat} (h : r.2 ≠ e) : thenW e r g = r := by unfold thenW; rw [if_neg h]
theorem thenW_yes {e : Nat} {r : RS × Nat} {g : RS → RS × Nat} (h : r.2 = e) : thenW e r g = g r.1 := by unfold thenW; rw [if_pos h]
theorem thenW_grow {e : Nat} {r : RS × Nat} {g : RS → RS × Nat} (h : ∀ st, Grow st (g st).1) : Grow r.1 (thenW e r g).1 := by
  unfold thenW; split
  · exact h _
  · exact Grow.refl _
theorem thenW_hi {e : Nat} {r : RS × Nat} {g : RS → RS × Nat} (h : ∀ st, Simi R n nv l V st (g st).1) : Simi R n nv l V r.1 (thenW e r g).1 := by
  unfold thenW; split
  · exact h _
  · exact Simi.refl _
theorem eq_zero {r : RS × Nat} (h : r.2 = 0) : r = (r.1, 0) := Prod.ext rfl h

/-- One after the other. -/
theorem Rel.then {e : Nat} {g1 g2 : RS → RS × Nat} (he : e ≠ 0) (h : Rel R n nv l V t1 a b) (gr1 : ∀ st, Grow st (g1 st).1) (gr2 : ∀ st, Grow st (g2 st).1)
    (both : a.2 = e → b.2 = e → Simi R n nv l V a.1 b.1 → Rel R n nv l V t (g1 a.1) (g2 b.1))
    (hi : ¬ Le R n t1 l → (∀ st, Simi R n nv l V st (g1 st).1) ∧ ∀ st, Simi R n nv l V st (g2 st).1)
    (hend : ¬ Le R n t1 l → Le R n t l → (thenW e a g1).2 = (thenW e b g2).2 ∨ (thenW e a g1).2 = 0 ∨ (thenW e b g2).2 = 0) :
    Rel R n nv l V t (thenW e a g1) (thenW e b g2) := by
  have left : ∀ {a b : RS × Nat} {g1 g2 : RS → RS × Nat}, (∀ st, Grow st (g2 st).1) → a.2 = 0 → seenL R n l a.1.out <+: seenL R n l b.1.out → Rel R n nv l V t (thenW e a g1) (thenW e b g2) := by
    intro a b g1 g2 hg h0 hp
    rw [thenW_no (r := a) (by omega)]
    exact Or.inr (Or.inl ⟨h0, hp.trans (thenW_grow hg).seen⟩)
  rcases h with ⟨h1, h2⟩ | ⟨h1, h2⟩ | ⟨h1, h2⟩
  · by_cases a0 : a.2 = 0
    · exact left gr2 a0 (by rw [h1.out]; exact List.prefix_refl _)
    by_cases b0 : b.2 = 0
    · exact (left gr1 b0 (by rw [h1.out]; exact List.prefix_refl _)).symm
    by_cases hlow : Le R n t1 l
    · have hab : a.2 = b.2 := by
        rcases h2 hlow with h | h | h
        · exact h
        · exact absurd h a0
        · exact absurd h b0
      by_cases hae : a.2 = e
      · rw [thenW_yes hae, thenW_yes (by rw [← hab]; exact hae)]
        exact both hae (by rw [← hab]; exact hae) h1
      · rw [thenW_no hae, thenW_no (by rw [← hab]; exact hae)]
        exact Or.inl ⟨h1, fun _ => Or.inl hab⟩
    · obtain ⟨i1, i2⟩ := hi hlow
      exact Or.inl ⟨(thenW_hi i1).symm.trans (h1.trans (thenW_hi i2)), hend hlow⟩
  · exact left gr2 h1 h2
  · exact (left gr1 h1 h2).symm

theorem setW_rel {s1 s2 : RS} {v : Nat} {x1 x2 : Option Nat} (h : Simi R n nv l V s1 s2) (ha : Le R n (V v) l → x1 = x2) (hD : Le R n t l → (x1 = none ↔ x2 = none)) : Rel R n nv l V t (setW s1 v x1) (setW s2 v x2) := by
  by_cases hv : Le R n (V v) l
  · rw [ha hv]
    cases x2 with
    | none => exact Or.inl ⟨h, fun _ => Or.inl rfl⟩
    | some y =>
      refine Or.inl ⟨⟨fun u hu hl => ?_, h.tk, h.out⟩, fun _ => Or.inl rfl⟩
      simp only [setW, setF]
      split
      · rfl
      · exact h.V u hu hl
  · cases x1 with
    | none => cases x2 with
      | none => exact Or.inl ⟨h, fun _ => Or.inl rfl⟩
      | some y => exact Or.inl ⟨h.trans (Simi.setHi hv _), fun hl => by have := (hD hl).1 rfl; cases this⟩
    | some x => cases x2 with
      | none => exact Or.inl ⟨(Simi.setHi hv _).symm.trans h, fun hl => by have := (hD hl).2 rfl; cases this⟩
      | some y => exact Or.inl ⟨(Simi.setHi hv _).symm.trans (h.trans (Simi.setHi hv _)), fun _ => Or.inl rfl⟩
theorem outW_rel (hln : l < n) {s1 s2 : RS} {d : Nat} {x1 x2 : Option Nat} (h : Simi R n nv l V s1 s2) (ha : Le R n d l → x1 = x2) (hD : Le R n t l → (x1 = none ↔ x2 = none)) : Rel R n nv l V t (outW s1 d x1) (outW s2 d x2) := by
  by_cases hv : Le R n d l
  · rw [ha hv]
    cases x2 with
    | none => exact Or.inl ⟨h, fun _ => Or.inl rfl⟩
    | some y =>
      refine Or.inl ⟨⟨h.V, h.tk, ?_⟩, fun _ => Or.inl rfl⟩
      simp only [outW]
      rw [seenL_app, seenL_app, h.out]
  · have hi : ∀ (s : RS) (y : Nat), Simi R n nv l V s { s with out := s.out ++ [(d, y)] } := fun s y => ⟨fun _ _ _ => rfl, fun _ _ => rfl, (seenL_hi hv hln _).symm⟩
    cases x1 with
    | none => cases x2 with
      | none => exact Or.inl ⟨h, fun _ => Or.inl rfl⟩
      | some y => exact Or.inl ⟨h.trans (hi _ _), fun hl => by have := (hD hl).1 rfl; cases this⟩
    | some x => cases x2 with
      | none => exact Or.inl ⟨(hi _ _).symm.trans h, fun hl => by have := (hD hl).2 rfl; cases this⟩
      | some y => exact Or.inl ⟨(hi _ _).symm.trans (h.trans (hi _ _)), fun _ => Or.inl rfl⟩
theorem rdW_rel {s1 s2 : RS} {d v : Nat} {x1 x2 : Option Nat} (h : Simi R n nv l V s1 s2) (ha : Le R n d l → x1 = x2) (hv : Le R n (V v) l → Le R n d l) (hD : Le R n t l → Le R n d l) : Rel R n nv l V t (rdW s1 d v x1) (rdW s2 d v x2) := by
  by_cases hd : Le R n d l
  · rw [ha hd]
    cases x2 with
    | none => exact Or.inl ⟨h, fun _ => Or.inl rfl⟩
    | some y =>
      refine Or.inl ⟨⟨fun u hu hl => ?_, fun u hu => ?_, h.out⟩, fun _ => Or.inl rfl⟩
      · simp only [rdW, setF]
        split
        · rfl
        · exact h.V u hu hl
      · simp only [rdW, setF]
        split
        · rw [h.tk d hd]
        · exact h.tk u hu
  · have hi : ∀ (s : RS) (y : Nat), Simi R n nv l V s { s with V := setF s.V v y, tk := setF s.tk d (s.tk d + 1) } := fun s y =>
      (Simi.setHi (fun h => hd (hv h)) s).trans ⟨fun _ _ _ => rfl, fun u hu => by
        show s.tk u = setF s.tk d (s.tk d + 1) u
        unfold setF
        split
        · rename_i e; rw [e] at hu; exact absurd hu hd
        · rfl, rfl⟩
    have hno : ∀ {q : Prop}, Le R n t l → q := fun h => absurd (hD h) hd
    cases x1 with
    | none => cases x2 with
      | none => exact Or.inl ⟨h, hno⟩
      | some y => exact Or.inl ⟨h.trans (hi _ _), hno⟩
    | some x => cases x2 with
      | none => exact Or.inl ⟨(hi _ _).symm.trans h, hno⟩
      | some y => exact Or.inl ⟨(hi _ _).symm.trans (h.trans (hi _ _)), hno⟩

/-- A loop in step. -/
theorem lpW_rel {run1 run2 : RS → RS × Nat} {ev : (Nat → Nat) → Option Nat} (g1 : ∀ st, Grow st (run1 st).1) (g2 : ∀ st, Grow st (run2 st).1) (hq : Le R n t l)
    (hev : ∀ s1 s2, Simi R n nv l V s1 s2 → ev s1.V = ev s2.V) (hrun : ∀ s1 s2, Simi R n nv l V s1 s2 → Rel R n nv l V t (run1 s1) (run2 s2)) :
    ∀ g s1 s2, Simi R n nv l V s1 s2 → Rel R n nv l V t (lpW run1 ev g s1) (lpW run2 ev g s2) := by
  intro g
  induction g with
  | zero =>
    intro s1 s2 h
    simp only [lpW]
    rw [hev s1 s2 h]
    cases ev s2.V with
    | none => exact Or.inl ⟨h, fun _ => Or.inl rfl⟩
    | some y =>
      by_cases hy : y = 0
      · simp only [hy, if_true]; exact Or.inl ⟨h, fun _ => Or.inl rfl⟩
      · simp only [hy, if_false]
        have hr := hrun s1 s2 h
        rcases hr with ⟨h1, h2⟩ | ⟨h1, h2⟩ | ⟨h1, h2⟩
        · by_cases a0 : (run1 s1).2 = 0
          · rw [if_neg (by omega)]
            refine Or.inr (Or.inl ⟨a0, ?_⟩)
            split <;> (rw [h1.out]; exact List.prefix_refl _)
          by_cases b0 : (run2 s2).2 = 0
          · rw [if_neg (c := (run2 s2).2 = 1) (by omega)]
            refine Or.inr (Or.inr ⟨b0, ?_⟩)
            split <;> (rw [h1.out]; exact List.prefix_refl _)
          have hab : (run1 s1).2 = (run2 s2).2 := by
            rcases h2 hq with h | h | h
            · exact h
            · exact absurd h a0
            · exact absurd h b0
          rw [hab]
          split
          · exact Or.inl ⟨h1, fun _ => Or.inl rfl⟩
          · exact Or.inl ⟨h1, fun _ => Or.inl hab⟩
        · rw [if_neg (by omega)]
          refine Or.inr (Or.inl ⟨h1, ?_⟩)
          split <;> exact h2
        · rw [if_neg (c := (run2 s2).2 = 1) (by omega)]
          refine Or.inr (Or.inr ⟨h1, ?_⟩)
          split <;> exact h2
  | succ g ih =>
    intro s1 s2 h
    have grow1 : ∀ s, Grow (run1 s).1 (if (run1 s).2 = 1 then (if (run1 s).1.fuel = 0 then ((run1 s).1, 0) else lpW run1 ev g { (run1 s).1 with fuel := (run1 s).1.fuel - 1 }) else run1 s).1 := by
      intro s
      split
      · split
        · exact Grow.refl _
        · exact (Grow.dec _).trans (lpW_grow g1 _ _)
      · exact Grow.refl _
    have grow2 : ∀ s, Grow (run2 s).1 (if (run2 s).2 = 1 then (if (run2 s).1.fuel = 0 then ((run2 s).1, 0) else lpW run2 ev g { (run2 s).1 with fuel := (run2 s).1.fuel - 1 }) else run2 s).1 := by
      intro s
      split
      · split
        · exact Grow.refl _
        · exact (Grow.dec _).trans (lpW_grow g2 _ _)
      · exact Grow.refl _
    simp only [lpW]
    rw [hev s1 s2 h]
    cases ev s2.V with
    | none => exact Or.inl ⟨h, fun _ => Or.inl rfl⟩
    | some y =>
      by_cases hy : y = 0
      · simp only [hy, if_true]; exact Or.inl ⟨h, fun _ => Or.inl rfl⟩
      · simp only [hy, if_false]
        have hr := hrun s1 s2 h
        have gg1 := grow1 s1
        have gg2 := grow2 s2
        rcases hr with ⟨h1, h2⟩ | ⟨h1, h2⟩ | ⟨h1, h2⟩
        · by_cases a0 : (run1 s1).2 = 0
          · refine Or.inr (Or.inl ⟨by rw [if_neg (by omega)]; exact a0, ?_⟩)
            rw [if_neg (by omega)]
            exact h1.pre gg2
          by_cases b0 : (run2 s2).2 = 0
          · refine Or.inr (Or.inr ⟨by rw [if_neg (by omega)]; exact b0, ?_⟩)
            rw [if_neg (c := (run2 s2).2 = 1) (by omega)]
            exact h1.symm.pre gg1
          have hab : (run1 s1).2 = (run2 s2).2 := by
            rcases h2 hq with h | h | h
            · exact h
            · exact absurd h a0
            · exact absurd h b0
          by_cases e1 : (run2 s2).2 = 1
          · rw [if_pos e1] at gg2
            rw [if_pos (hab.trans e1)] at gg1
            rw [if_pos e1, if_pos (hab.trans e1)]
            by_cases f1 : (run1 s1).1.fuel = 0
            · rw [if_pos f1]
              exact Or.inr (Or.inl ⟨rfl, h1.pre gg2⟩)
            by_cases f2 : (run2 s2).1.fuel = 0
            · rw [if_pos f2]
              exact Or.inr (Or.inr ⟨rfl, h1.symm.pre gg1⟩)
            rw [if_neg f1, if_neg f2]
            exact ih _ _ ⟨h1.V, h1.tk, h1.out⟩
          · rw [if_neg e1, if_neg (by rw [hab]; exact e1)]
            exact Or.inl ⟨h1, fun _ => Or.inl hab⟩
        · refine Or.inr (Or.inl ⟨by rw [if_neg (by omega)]; exact h1, ?_⟩)
          rw [if_neg (by omega)]
          exact h2.trans gg2.seen
        · refine Or.inr (Or.inr ⟨by rw [if_neg (by omega)]; exact h1, ?_⟩)
          rw [if_neg (c := (run2 s2).2 = 1) (by omega)]
          exact h2.trans gg1.seen
/-- A loop that throws at once or not at all. -/
theorem lpW_calm2 {run : RS → RS × Nat} {ev : (Nat → Nat) → Option Nat} (h : ∀ st, (run st).2 ≠ 2) (hs : ∀ st, Simi R n nv l V st (run st).1)
    (he : ∀ s1 s2, Simi R n nv l V s1 s2 → ev s1.V ≠ none → ev s2.V ≠ none) : ∀ g st, ev st.V ≠ none → (lpW run ev g st).2 ≠ 2 := by
  intro g
  induction g with
  | zero =>
    intro st hn
    simp only [lpW]
    split
    · rename_i e; exact absurd e hn
    · split
      · simp
      · split
        · simp
        · exact h st
  | succ g ih =>
    intro st hn
    simp only [lpW]
    split
    · rename_i e; exact absurd e hn
    · split
      · simp
      · split
        · split
          · simp
          · exact ih _ (he st _ ((hs st).trans (Simi.dec _)) hn)
        · exact h st
end

end Go.Proofs.YtfcflnnleadpkaaGreat

namespace Go.Proofs.YtfcflnnleadpkaaGreat

/-- More fuel. -/
def addF (st : RS) (x : Nat) : RS := { st with fuel := st.fuel + x }
/-- A run, and one with x more fuel. -/
def More (x : Nat) (r r' : RS × Nat) : Prop := (r.2 ≠ 0 ∧ r' = (addF r.1 x, r.2)) ∨ (r.2 = 0 ∧ r.1.out <+: r'.1.out)

section
variable {c : Nat → Int} {nv n np : Nat} {inp inp1 inp2 : Nat → List Nat} {P : Nat → Nat} {F x : Nat}

theorem Grow.pre {a b : RS} (h : Grow a b) : a.out <+: b.out := by
  obtain ⟨l, e, _⟩ := h.out
  rw [e]; exact List.prefix_append _ _
theorem More.then {e : Nat} {a b : RS × Nat} {g : RS → RS × Nat} (he : e ≠ 0) (h : More x a b) (gr : ∀ st, Grow st (g st).1) (hg : a.2 = e → More x (g a.1) (g (addF a.1 x))) : More x (thenW e a g) (thenW e b g) := by
  rcases h with ⟨h0, rfl⟩ | ⟨h0, h1⟩
  · by_cases h2 : a.2 = e
    · rw [thenW_yes h2, thenW_yes (r := (addF a.1 x, a.2)) h2]; exact hg h2
    · rw [thenW_no h2, thenW_no (r := (addF a.1 x, a.2)) h2]; exact Or.inl ⟨h0, rfl⟩
  · rw [thenW_no (r := a) (by omega)]
    exact Or.inr ⟨h0, h1.trans (thenW_grow gr).pre⟩
theorem dec_add {st : RS} (h : st.fuel ≠ 0) : dec (addF st x) = addF (dec st) x := by
  unfold dec addF
  simp only
  congr 1
  omega
theorem addF_fuel {st : RS} (h : st.fuel ≠ 0) : (addF st x).fuel ≠ 0 := by
  show st.fuel + x ≠ 0
  omega

theorem lpW_more {run : RS → RS × Nat} {ev : (Nat → Nat) → Option Nat} {G : Nat} (gr : ∀ st, Grow st (run st).1) (h : ∀ st, st.fuel + x ≤ G → More x (run st) (run (addF st x))) :
    ∀ g st, g ≤ G → st.fuel + x ≤ g → More x (lpW run ev g st) (lpW run ev g (addF st x)) := by
  intro g
  induction g with
  | zero =>
    intro st _ hg
    have hx : x = 0 := by omega
    subst hx
    have e : addF st 0 = st := rfl
    rw [e]
    by_cases h0 : (lpW run ev 0 st).2 = 0
    · exact Or.inr ⟨h0, List.prefix_refl _⟩
    · exact Or.inl ⟨h0, rfl⟩
  | succ g ih =>
    intro st hG hg
    have hr := h st (by omega)
    have hgr := gr st
    simp only [lpW]
    have ev1 : ev (addF st x).V = ev st.V := rfl
    rw [ev1]
    cases ev st.V with
    | none => exact Or.inl ⟨by simp, rfl⟩
    | some y =>
      by_cases hy : y = 0
      · simp only [hy, if_true]; exact Or.inl ⟨by simp, rfl⟩
      · simp only [hy, if_false]
        rcases hr with ⟨h0, h1⟩ | ⟨h0, h1⟩
        · rw [h1]
          by_cases e1 : (run st).2 = 1
          · simp only [e1, if_true]
            by_cases f0 : (run st).1.fuel = 0
            · rw [if_pos f0]
              refine Or.inr ⟨rfl, ?_⟩
              have p0 : (run st).1.out <+: (addF (run st).1 x).out := List.prefix_refl _
              split
              · exact p0
              · exact p0.trans ((Grow.dec _).trans (lpW_grow gr _ _)).pre
            · rw [if_neg f0, if_neg (addF_fuel f0)]
              have := ih { (run st).1 with fuel := (run st).1.fuel - 1 } (by omega) (by have := hgr.fuel; simp only; omega)
              have e2 : addF { (run st).1 with fuel := (run st).1.fuel - 1 } x = { addF (run st).1 x with fuel := (addF (run st).1 x).fuel - 1 } := (dec_add f0).symm
              rw [e2] at this
              exact this
          · simp only [e1, if_false]
            exact Or.inl ⟨h0, rfl⟩
        · rw [if_neg (c := (run st).2 = 1) (by omega)]
          refine Or.inr ⟨h0, ?_⟩
          split
          · split
            · exact h1
            · exact h1.trans ((Grow.dec _).trans (lpW_grow gr _ _)).pre
          · exact h1

/-- With more fuel a run that ended is the same; one that did not goes on. -/
theorem exS_more : ∀ (g i k : Nat) (st : RS), st.fuel + x ≤ g → More x (exS c inp P F g i k st) (exS c inp P F g i k (addF st x)) := by
  intro g
  induction g with
  | zero =>
    intro i k st hg
    have hx : x = 0 := by omega
    subst hx
    exact Or.inr ⟨rfl, List.prefix_refl _⟩
  | succ g ih =>
    intro i k st hg
    have gr : ∀ (g i k : Nat) (st : RS), Grow st (exS c inp P F g i k st).1 := fun g i k st => exS_grow g i k st
    by_cases hf : st.fuel = 0
    · rw [exS_spent hf]
      have p0 : st.out <+: (addF st x).out := List.prefix_refl _
      exact Or.inr ⟨rfl, p0.trans (gr _ _ _ _).pre⟩
    have hf2 := addF_fuel (x := x) hf
    have hd := dec_add (x := x) hf
    have hdf : (dec st).fuel + x ≤ g := by show st.fuel - 1 + x ≤ g; omega
    by_cases h1 : c i = 44
    · rw [exS_seq hf h1, exS_seq hf2 h1, hd]
      exact (ih _ _ _ hdf).then (by omega) (fun st => gr _ _ _ st) (fun _ => ih _ _ _ (by have := (gr g (i + 1) k (dec st)).fuel; omega))
    by_cases h2 : c i = 116
    · rw [exS_t hf h2, exS_t hf2 h2, hd]
      exact (ih _ _ _ hdf).then (by omega) (fun st => gr _ _ _ st) (fun _ => ih _ _ _ (by have := (gr g (i + 1) k (dec st)).fuel; omega))
    by_cases h3 : c i = 61
    · rw [exS_eq hf h3, exS_eq hf2 h3, hd]
      show More x (setW (dec st) _ (evE c st.V F (i + 2))) (setW (addF (dec st) x) _ (evE c st.V F (i + 2)))
      cases evE c st.V F (i + 2) with
      | none => exact Or.inl ⟨by simp [setW], rfl⟩
      | some y => exact Or.inl ⟨by simp [setW], rfl⟩
    by_cases h4 : c i = 105
    · rw [exS_i hf h4, exS_i hf2 h4, hd]
      show More x (ifW (dec st) (evE c st.V F (i + 1)) _ _) (ifW (addF (dec st) x) (evE c st.V F (i + 1)) _ _)
      cases evE c st.V F (i + 1) with
      | none => exact Or.inl ⟨by simp [ifW], rfl⟩
      | some y =>
        simp only [ifW]
        split
        · exact ih _ _ _ hdf
        · exact ih _ _ _ hdf
    by_cases h5 : c i = 119
    · rw [exS_w hf h5, exS_w hf2 h5, hd]
      exact lpW_more (fun st => gr _ _ _ st) (fun st h => ih _ _ st h) g _ (Nat.le_refl _) hdf
    by_cases h6 : c i = 114
    · rw [exS_r hf h6, exS_r hf2 h6, hd]
      show More x (rdW (dec st) _ _ ((inp (c (i + 1) - 48).toNat)[st.tk (c (i + 1) - 48).toNat]?)) (rdW (addF (dec st) x) _ _ ((inp (c (i + 1) - 48).toNat)[st.tk (c (i + 1) - 48).toNat]?))
      cases (inp (c (i + 1) - 48).toNat)[st.tk (c (i + 1) - 48).toNat]? with
      | none => exact Or.inl ⟨by simp [rdW], rfl⟩
      | some y => exact Or.inl ⟨by simp [rdW], rfl⟩
    by_cases h7 : c i = 111
    · rw [exS_o hf h7, exS_o hf2 h7, hd]
      show More x (outW (dec st) _ (evE c st.V F (i + 2))) (outW (addF (dec st) x) _ (evE c st.V F (i + 2)))
      cases evE c st.V F (i + 2) with
      | none => exact Or.inl ⟨by simp [outW], rfl⟩
      | some y => exact Or.inl ⟨by simp [outW], rfl⟩
    by_cases h8 : c i = 120
    · rw [exS_x hf h8, exS_x hf2 h8, hd]; exact Or.inl ⟨by simp, rfl⟩
    by_cases h9 : c i = 99
    · rw [exS_c hf h9, exS_c hf2 h9, hd]
      split
      · exact Or.inl ⟨by simp, rfl⟩
      · exact ih _ _ _ hdf
    rw [exS_no hf h1 h2 h3 h4 h5 h6 h7 h8 h9, exS_no hf2 h1 h2 h3 h4 h5 h6 h7 h8 h9, hd]; exact Or.inl ⟨by simp, rfl⟩

/-- The inputs are the same as far as a run can take. -/
def Heard (inp1 inp2 : Nat → List Nat) (st : RS) : Prop := ∀ d j, j < st.tk d + st.fuel → (inp1 d)[j]? = (inp2 d)[j]?
theorem Heard.grow {a b : RS} (h : Heard inp1 inp2 a) (g : Grow a b) : Heard inp1 inp2 b := fun d j hj => h d j (by have := (g.tk d).2; omega)
theorem lpW_deaf {run1 run2 : RS → RS × Nat} {ev : (Nat → Nat) → Option Nat} (gr : ∀ st, Grow st (run1 st).1) (h : ∀ st, Heard inp1 inp2 st → run1 st = run2 st) : ∀ g st, Heard inp1 inp2 st → lpW run1 ev g st = lpW run2 ev g st := by
  intro g
  induction g with
  | zero => intro st hs; simp only [lpW]; rw [h st hs]
  | succ g ih =>
    intro st hs
    have h2 := h st hs
    have h3 := ih { (run1 st).1 with fuel := (run1 st).1.fuel - 1 } (hs.grow ((gr st).trans (Grow.dec _)))
    simp only [lpW]
    rw [h3, h2]
/-- What a run cannot take is not looked at. -/
theorem exS_deaf : ∀ (g i k : Nat) (st : RS), Heard inp1 inp2 st → exS c inp1 P F g i k st = exS c inp2 P F g i k st := by
  intro g
  induction g with
  | zero => intro i k st _; rfl
  | succ g ih =>
    intro i k st hs
    have gr : ∀ (g i k : Nat) (st : RS), Grow st (exS c inp1 P F g i k st).1 := fun g i k st => exS_grow g i k st
    by_cases hf : st.fuel = 0
    · rw [exS_spent hf, exS_spent hf]
    have hd := hs.grow (Grow.dec st)
    have hthen : ∀ (e m : Nat), thenW e (exS c inp1 P F g (i + 1) k (dec st)) (exS c inp1 P F g m k) = thenW e (exS c inp2 P F g (i + 1) k (dec st)) (exS c inp2 P F g m k) := by
      intro e m
      have h2 := ih m k (exS c inp1 P F g (i + 1) k (dec st)).1 (hd.grow (gr _ _ _ _))
      unfold thenW
      rw [h2, ih (i + 1) k (dec st) hd]
    by_cases h1 : c i = 44
    · rw [exS_seq hf h1, exS_seq hf h1]; exact hthen _ _
    by_cases h2 : c i = 116
    · rw [exS_t hf h2, exS_t hf h2]; exact hthen _ _
    by_cases h3 : c i = 61
    · rw [exS_eq hf h3, exS_eq hf h3]
    by_cases h4 : c i = 105
    · rw [exS_i hf h4, exS_i hf h4]
      unfold ifW
      rw [ih _ k (dec st) hd, ih _ k (dec st) hd]
    by_cases h5 : c i = 119
    · rw [exS_w hf h5, exS_w hf h5]; exact lpW_deaf (fun st => gr _ _ _ st) (fun st h => ih _ _ st h) g _ hd
    by_cases h6 : c i = 114
    · rw [exS_r hf h6, exS_r hf h6, hs _ _ (by omega)]
    by_cases h7 : c i = 111
    · rw [exS_o hf h7, exS_o hf h7]
    by_cases h8 : c i = 120
    · rw [exS_x hf h8, exS_x hf h8]
    by_cases h9 : c i = 99
    · rw [exS_c hf h9, exS_c hf h9, ih _ _ (dec st) hd]
    rw [exS_no hf h1 h2 h3 h4 h5 h6 h7 h8 h9, exS_no hf h1 h2 h3 h4 h5 h6 h7 h8 h9]

theorem opV_lt {o : Int} {a b y : Nat} (ha : a < 65536) (h : opV o a b = some y) : y < 65536 := by
  unfold opV at h
  split at h
  · injection h with h; omega
  split at h
  · injection h with h; omega
  split at h
  · injection h with h; omega
  split at h
  · split at h
    · cases h
    · injection h with h
      have := Nat.div_le_self a b
      omega
  · injection h with h
    split at h <;> omega
theorem evE_lt {U : Nat → Nat} (hU : ∀ v, U v < 65536) : ∀ f i y, evE c U f i = some y → y < 65536 := by
  intro f
  induction f with
  | zero => intro i y h; simp [evE] at h
  | succ f ih =>
    intro i y h
    cases ho : isOp (c i)
    · cases h2 : isDB (c i) 10
      · rw [evE_var ho h2] at h; injection h with h; rw [← h]; exact hU _
      · rw [evE_dig ho h2] at h; injection h with h
        have := (isDB_iff _ _).1 h2
        omega
    · rw [evE_op ho] at h
      cases ea : evE c U f (i + 1) with
      | none => rw [ea] at h; cases h
      | some a =>
        rw [ea] at h
        cases eb : evE c U f (skE c f (i + 1)) with
        | none => rw [eb] at h; cases h
        | some b =>
          rw [eb] at h
          exact opV_lt (ih _ _ ea) h
/-- Numbers are below 65536, and what is put out is at levels. -/
structure Sane (n : Nat) (st : RS) : Prop where
  V : ∀ v, st.V v < 65536
  out : ∀ e ∈ st.out, e.1 < n ∧ e.2 < 65536
theorem Sane.set {st : RS} (h : Sane n st) {v y : Nat} (hy : y < 65536) : Sane n { st with V := setF st.V v y } := by
  refine ⟨fun u => ?_, h.out⟩
  show setF st.V v y u < 65536
  unfold setF
  split
  · exact hy
  · exact h.V u
theorem lpW_sane {run : RS → RS × Nat} {ev : (Nat → Nat) → Option Nat} (h : ∀ st, Sane n st → Sane n (run st).1) : ∀ g st, Sane n st → Sane n (lpW run ev g st).1 := by
  intro g
  induction g with
  | zero =>
    intro st hs
    simp only [lpW]
    split
    · exact hs
    · split
      · exact hs
      · split
        · exact h st hs
        · exact h st hs
  | succ g ih =>
    intro st hs
    simp only [lpW]
    split
    · exact hs
    · split
      · exact hs
      · split
        · split
          · exact h st hs
          · exact ih _ ⟨(h st hs).V, (h st hs).out⟩
        · exact h st hs
theorem exS_sane (hi : ∀ d x, x ∈ inp d → x < 65536) (hP : ∀ k, k < np → ∃ j, wfS c nv n np F (P k) = (j, false)) : ∀ (g f i j k : Nat) (st : RS), wfS c nv n np f i = (j, false) → f ≤ F → Sane n st → Sane n (exS c inp P F g i k st).1 := by
  intro g
  induction g with
  | zero => intro f i j k st _ _ h; exact h
  | succ g ih =>
    intro f i j k st h hF hs
    by_cases hf : st.fuel = 0
    · rw [exS_spent hf]; exact hs
    have hd : Sane n (dec st) := ⟨hs.V, hs.out⟩
    cases f with
    | zero => simp [wfS] at h
    | succ f =>
      rcases wfS_letter h with hc | hc | hc | hc | hc | hc | hc | hc
      · rcases hc with hc | hc
        · rw [exS_no hf (by omega) (by omega) (by omega) (by omega) (by omega) (by omega) (by omega) (by omega) (by omega)]; exact hd
        · rw [exS_x hf hc]; exact hd
      · obtain ⟨m, e1, e2⟩ := wfS_inv_seq h hc
        have hsk := skS_of f (i + 1) m F e1 (by omega)
        have s1 := ih f (i + 1) m k (dec st) e1 (by omega) hd
        have s2 := ih f m j k _ e2 (by omega) s1
        rcases hc with hc | hc
        · rw [exS_seq hf hc, hsk]
          unfold thenW
          split
          · exact s2
          · exact s1
        · rw [exS_t hf hc, hsk]
          unfold thenW
          split
          · exact s2
          · exact s1
      · rw [exS_eq hf hc]
        cases e : evE c st.V F (i + 2) with
        | none => exact hd
        | some y => exact hd.set (evE_lt hs.V _ _ _ e)
      · obtain ⟨m, q, e1, e2, e3⟩ := wfS_inv_i h hc
        rw [exS_i hf hc, skE_of f _ _ F e1 (by omega), skS_of f _ _ F e2 (by omega)]
        unfold ifW
        split
        · exact hd
        · split
          · exact ih f q j k _ e3 (by omega) hd
          · exact ih f m q k _ e2 (by omega) hd
      · obtain ⟨m, e1, e2⟩ := wfS_inv_w h hc
        rw [exS_w hf hc, skE_of f _ _ F e1 (by omega)]
        exact lpW_sane (fun st hs => ih f m j k st e2 (by omega) hs) _ _ hd
      · rw [exS_r hf hc]
        cases e : (inp (c (i + 1) - 48).toNat)[st.tk (c (i + 1) - 48).toNat]? with
        | none => exact hd
        | some y =>
          have := hd.set (v := (c (i + 2) - 97).toNat) (hi _ _ (List.mem_of_getElem? e))
          exact ⟨this.V, this.out⟩
      · obtain ⟨e1, e2⟩ := wfS_inv_o h hc
        obtain ⟨x, ex, hx⟩ := isDB_nat e1
        rw [exS_o hf hc, ex]
        cases e : evE c st.V F (i + 2) with
        | none => exact hd
        | some y =>
          refine ⟨hd.V, fun z hz => ?_⟩
          rcases List.mem_append.1 hz with hz | hz
          · exact hd.out z hz
          · rw [List.mem_singleton.1 hz]; exact ⟨hx, evE_lt hs.V _ _ _ e⟩
      · obtain ⟨e1, rfl⟩ := wfS_inv_c h hc
        obtain ⟨x, ex, hx⟩ := isDB_nat e1
        obtain ⟨j', w1⟩ := hP x hx
        rw [exS_c hf hc, ex]
        split
        · exact hd
        · exact ih F _ j' _ _ w1 (Nat.le_refl _) hd
end

end Go.Proofs.YtfcflnnleadpkaaGreat

namespace Go.Proofs.YtfcflnnleadpkaaGreat
open Go.RowKit
variable {E : Env} {w w' w0 w1 wa : World}

theorem LI_init (w : World) : LI w (w.alloc (.cells #[.slice none 0 0, .slice none 0 0, .slice none 0 0] 100)) (.slice none 0 0) (.slice none 0 0) (.slice none 0 0) [] [] [] :=
  ⟨heap_alloc_last w _, World.ownsRow_nil _ _ _ _, World.ownsRow_nil _ _ _ _, World.ownsRow_nil _ _ _ _, Or.inl rfl, Or.inl rfl, Or.inl rfl, (Below.refl _ _).alloc (Nat.le_refl _) _⟩
def vl (E : Env) (k : Nat) : List Nat := (List.range k).map (v0 E)
def bl (b k : Nat) : List Nat := List.replicate k b
theorem vl_len (E : Env) (k : Nat) : (vl E k).length = k := by simp [vl]
theorem bl_len (b k : Nat) : (bl b k).length = k := by simp [bl]
theorem vl_succ (E : Env) (k : Nat) : vl E k ++ [v0 E k] = vl E (k + 1) := by unfold vl; rw [List.range_succ, List.map_append]; rfl
theorem bl_succ (b k : Nat) : bl b k ++ [b] = bl b (k + 1) := by unfold bl; rw [List.replicate_succ']

theorem LI.stepV {vv xv tv : Value} {X T : List Nat} {gg cap k : Nat} (h : LI w0 w vv xv tv (vl E k) X T) (hwa : wa.heap.size = w.heap.size + 1) (hab : Below w.heap.size w wa)
    (hown1 : w1.ownsRow (w0.heap.size + 1) 3 1 (.slice (some ⟨gg, 0, none⟩) (k + 1) cap) (k + 1) (cells (vl E k) ++ [.int .i64 ((v0 E k : Nat) : Int)]))
    (hgrow : wa.grownBy w1 vv.ownBlock) (hat : vv.ownBlock = some gg ∨ gg = w.heap.size + 1) :
    LI w0 (w1.setCell ⟨w0.heap.size, 0, none⟩ (.slice (some ⟨gg, 0, none⟩) (k + 1) cap)) (.slice (some ⟨gg, 0, none⟩) (k + 1) cap) xv tv (vl E (k + 1)) X T := by
  have e := vl_len E k
  have h2 := h.pushV (x := v0 E k) hwa hab (by rw [e]; exact hown1) hgrow hat
  rw [vl_succ, e] at h2
  exact h2
theorem LI.stepX {vv xv tv : Value} {V T : List Nat} {gg cap k b : Nat} (h : LI w0 w vv xv tv V (bl b k) T) (hwa : wa.heap.size = w.heap.size + 1) (hab : Below w.heap.size w wa)
    (hown1 : w1.ownsRow (w0.heap.size + 1) 3 1 (.slice (some ⟨gg, 0, none⟩) (k + 1) cap) (k + 1) (cells (bl b k) ++ [.int .i64 (b : Int)]))
    (hgrow : wa.grownBy w1 xv.ownBlock) (hat : xv.ownBlock = some gg ∨ gg = w.heap.size + 1) :
    LI w0 (w1.setCell ⟨w0.heap.size, 1, none⟩ (.slice (some ⟨gg, 0, none⟩) (k + 1) cap)) vv (.slice (some ⟨gg, 0, none⟩) (k + 1) cap) tv V (bl b (k + 1)) T := by
  have e := bl_len b k
  have h2 := h.pushX (x := b) hwa hab (by rw [e]; exact hown1) hgrow hat
  rw [bl_succ, e] at h2
  exact h2
theorem LI.stepT {vv xv tv : Value} {V X : List Nat} {gg cap k b : Nat} (h : LI w0 w vv xv tv V X (bl b k)) (hwa : wa.heap.size = w.heap.size + 1) (hab : Below w.heap.size w wa)
    (hown1 : w1.ownsRow (w0.heap.size + 1) 3 1 (.slice (some ⟨gg, 0, none⟩) (k + 1) cap) (k + 1) (cells (bl b k) ++ [.int .i64 (b : Int)]))
    (hgrow : wa.grownBy w1 tv.ownBlock) (hat : tv.ownBlock = some gg ∨ gg = w.heap.size + 1) :
    LI w0 (w1.setCell ⟨w0.heap.size, 2, none⟩ (.slice (some ⟨gg, 0, none⟩) (k + 1) cap)) vv xv (.slice (some ⟨gg, 0, none⟩) (k + 1) cap) V X (bl b (k + 1)) := by
  have e := bl_len b k
  have h2 := h.pushT (x := b) hwa hab (by rw [e]; exact hown1) hgrow hat
  rw [bl_succ, e] at h2
  exact h2
theorem LI.vrow {vv xv tv : Value} {V X T : List Nat} {k : Nat} (h : LI w0 w vv xv tv V X T) (e : V.length = k) : ∃ a cp, vv = .slice a k cp ∧ w.ownsRow (w0.heap.size + 1) 3 1 (.slice a k cp) k (cells V) ∧ some w0.heap.size ≠ (Value.slice a k cp).ownBlock := by
  obtain ⟨a, cp, rfl⟩ := ownsRow_slice h.vown
  have h1 := h.vown
  have h2 : some w0.heap.size ≠ (Value.slice a V.length cp).ownBlock := fun e => by have := (h1.lt _ e.symm).1; omega
  rw [e] at h1 h2
  exact ⟨a, cp, by rw [e], h1, h2⟩
theorem LI.xrow {vv xv tv : Value} {V X T : List Nat} {k : Nat} (h : LI w0 w vv xv tv V X T) (e : X.length = k) : ∃ a cp, xv = .slice a k cp ∧ w.ownsRow (w0.heap.size + 1) 3 1 (.slice a k cp) k (cells X) ∧ some w0.heap.size ≠ (Value.slice a k cp).ownBlock := by
  obtain ⟨a, cp, rfl⟩ := ownsRow_slice h.xown
  have h1 := h.xown
  have h2 : some w0.heap.size ≠ (Value.slice a X.length cp).ownBlock := fun e => by have := (h1.lt _ e.symm).1; omega
  rw [e] at h1 h2
  exact ⟨a, cp, by rw [e], h1, h2⟩
theorem LI.trow {vv xv tv : Value} {V X T : List Nat} {k : Nat} (h : LI w0 w vv xv tv V X T) (e : T.length = k) : ∃ a cp, tv = .slice a k cp ∧ w.ownsRow (w0.heap.size + 1) 3 1 (.slice a k cp) k (cells T) ∧ some w0.heap.size ≠ (Value.slice a k cp).ownBlock := by
  obtain ⟨a, cp, rfl⟩ := ownsRow_slice h.town
  have h1 := h.town
  have h2 : some w0.heap.size ≠ (Value.slice a T.length cp).ownBlock := fun e => by have := (h1.lt _ e.symm).1; omega
  rw [e] at h1 h2
  exact ⟨a, cp, by rw [e], h1, h2⟩
theorem far {w wa w1 : World} {row : Option Nat} {B : Nat} (hgrow : wa.grownBy w1 row) (hlt : B < w.heap.size) (hwa : wa.heap.size = w.heap.size + 1) (hab : Below w.heap.size w wa) (hne : some B ≠ row) (j : Nat) : w1.cell? ⟨B, j, none⟩ = w.cell? ⟨B, j, none⟩ ∧ w1.frozen? ⟨B, j, none⟩ = w.frozen? ⟨B, j, none⟩ :=
  ⟨(hgrow.cell_far ⟨B, j, none⟩ (by simp; omega) hne).trans (World.cell?_of_block (w := w) (a := ⟨B, j, none⟩) (hab.block B hlt)), (hgrow.frozen_far ⟨B, j, none⟩ (by simp; omega) hne).trans (World.frozen?_of_block (w := w) (a := ⟨B, j, none⟩) (hab.block B hlt))⟩
theorem alloc_below (w : World) (o : Obj) : Below w.heap.size w (w.alloc o) := (Below.refl _ _).alloc (Nat.le_refl _) _

theorem own_sl {B n : Nat} {v : Value} {L : List Value} {F : Nat → Int} (h : w.ownsRow B 3 1 v n L) (hF : ∀ k, k < n → L[k]? = some (.int .i64 (F k))) :
    ∃ g cap, v = sl n g cap ∧ (0 < n → B ≤ g ∧ v.ownBlock = some g) ∧ Rw w g n F := by
  rcases h.2 with ⟨rfl, e1⟩ | ⟨g, cap, cur, rfl, hb, hg, _, _, _, ht⟩
  · exact ⟨0, 0, by unfold sl; rw [if_pos e1, if_pos rfl], fun h => by omega, fun h => by omega⟩
  · rcases Nat.eq_zero_or_pos n with hz | hz
    · subst hz
      exact ⟨g, cap + 1, by unfold sl; rw [if_pos rfl, if_neg (by omega)]; rfl, fun h => by omega, fun h => by omega⟩
    · refine ⟨g, cap, (sl_pos hz).symm, fun _ => ⟨hb, rfl⟩, fun _ => ⟨cur, hg, fun k hk => ?_⟩⟩
      have h2 : (cur.toList.take (n * 1))[k]? = L[k]? := by rw [ht]
      rw [List.getElem?_take_of_lt (by omega)] at h2
      simp only [Array.getElem?_toList] at h2
      rw [h2, hF k hk]
theorem cells_get {L : List Nat} {k : Nat} (hk : k < L.length) : (cells L)[k]? = some (.int .i64 ((L.getD k 0 : Nat) : Int)) := by simp [cells, hk]
theorem Rw.congr {g m : Nat} {F G : Nat → Int} (h : Rw w g m F) (e : ∀ k, k < m → F k = G k) : Rw w g m G := by
  intro hm
  obtain ⟨cur, h1, h2⟩ := h hm
  exact ⟨cur, h1, fun k hk => by rw [h2 k hk, e k hk]⟩

/-- Where the labelling lies. -/
def lbE (E : Env) (B gv cv gx cx gt ct : Nat) : Env := { E with lb := B, gv := gv, cv := cv, gx := gx, cx := cx, gt := gt, ct := ct, B := B }
/-- A Walk over it. -/
def wbE (E : Env) (x : Nat) (low : Bool) : Env := { E with wb := x, low := low }

theorem LI.at0 {vv xv tv : Value} {b : Nat} (h : LI w0 w vv xv tv (vl E E.nv) (bl b E.np) (bl b E.np)) (hb : bot E.R E.n = b) (hn : 1 ≤ E.n) (P0 : Pg E w0) :
    ∃ gv cv gx cx gt ct, At0 (lbE E w0.heap.size gv cv gx cx gt ct) w (st0 E) ∧ ∀ x low, w0.heap.size ≤ x → Sep (wbE (lbE E w0.heap.size gv cv gx cx gt ct) x low) := by
  have P := P0.below hn h.bel
  obtain ⟨gv, cv, ev, bv, rv⟩ := own_sl h.vown (fun k hk => cells_get hk)
  obtain ⟨gx, cx, ex, bx, rx⟩ := own_sl h.xown (fun k hk => cells_get hk)
  obtain ⟨gt, ct, et, bt', rt⟩ := own_sl h.town (fun k hk => cells_get hk)
  rw [vl_len] at ev bv rv
  rw [bl_len] at ex bx rx et bt' rt
  have hvx := h.vx
  have hvt := h.vt
  have hxt := h.xt
  refine ⟨gv, cv, gx, cx, gt, ct, ⟨⟨P.pg, P.ord, P.fx, P.ps⟩, ?_, ?_, ?_, ?_⟩, fun x low hx => ⟨P0.obl, P0.gl hn, fun i hi => P0.rbl hi, hx, ?_, ?_, ?_, ?_, ?_, ?_, ?_, ?_, ?_, ?_, ?_, ?_⟩⟩
  · have := h.lab
    rw [ev, ex, et] at this
    exact this
  · refine rv.congr fun k hk => ?_
    simp only [lv, st0]
    have : (vl E E.nv).getD k 0 = v0 E k := by simp [vl, hk]
    rw [this]
  · refine rx.congr fun k hk => ?_
    simp only [lv, st0]
    have : (bl b E.np).getD k 0 = b := by simp [bl, hk]
    rw [this, hb]
  · refine rt.congr fun k hk => ?_
    simp only [lv, st0]
    have : (bl b E.np).getD k 0 = b := by simp [bl, hk]
    rw [this, hb]
  · intro hv; have := (bv hv).1; simp only [wbE, lbE]; omega
  · intro hv; have := (bx hv).1; simp only [wbE, lbE]; omega
  · intro hv; have := (bt' hv).1; simp only [wbE, lbE]; omega
  · intro hv hp e
    simp only [wbE, lbE] at e
    rw [(bx hp).2, (bv hv).2, e] at hvx
    simp at hvx
  · intro hv hp e
    simp only [wbE, lbE] at e
    rw [(bt' hp).2, (bv hv).2, e] at hvt
    simp at hvt
  · intro hv e
    have := (bv hv).1
    have := P0.fx.lt hv
    simp only [wbE, lbE] at e
    omega
  · intro hv hp e
    have := (bv hv).1
    have := P0.ps.lt hp
    simp only [wbE, lbE] at e
    omega
  · intro hp e
    simp only [wbE, lbE] at e
    rw [(bt' hp).2, (bx hp).2, e] at hxt
    simp at hxt
  · intro hv hp e
    have := (bx hp).1
    have := P0.fx.lt hv
    simp only [wbE, lbE] at e
    omega
  · intro hp e
    have := (bx hp).1
    have := P0.ps.lt hp
    simp only [wbE, lbE] at e
    omega
  · intro hv hp e
    have := (bt' hp).1
    have := P0.fx.lt hv
    simp only [wbE, lbE] at e
    omega
  · intro hp e
    have := (bt' hp).1
    have := P0.ps.lt hp
    simp only [wbE, lbE] at e
    omega

theorem wk_env {E E' : Env} (hs : E'.s = E.s) (hR : E'.R = E.R) (hn : E'.n = E.n) (hl : E'.low = E.low) (f : Nat) (mute : Bool) (i p : Nat) (st : WS) : wk E' f mute i p st = wk E f mute i p st := by
  unfold wk; rw [hs, hR, hn, hl]
theorem allTo_env {E E' : Env} (hs : E'.s = E.s) (hR : E'.R = E.R) (hn : E'.n = E.n) (hl : E'.low = E.low) (hP : E'.P = E.P) (hm : E'.main = E.main) (f : Nat) (st : WS) : ∀ k, allTo E' f st k = allTo E f st k := by
  intro k
  induction k with
  | zero => simp only [allTo]; rw [wk_env hs hR hn hl, hR, hn, hm]
  | succ k ih =>
    simp only [allTo]
    rw [ih]
    unfold thrS thrR
    rw [wk_env hs hR hn hl, hP, hR, hn, hl]
theorem allW_lb (E : Env) (B gv cv gx cx gt ct x : Nat) (low : Bool) (f : Nat) (st : WS) : allW (wbE (lbE E B gv cv gx cx gt ct) x low) f st = allW { E with low := low } f st :=
  allTo_env (E := { E with low := low }) (E' := wbE (lbE E B gv cv gx cx gt ct) x low) rfl rfl rfl rfl rfl rfl f st _
/-- A Walk laid. -/
theorem At0.walk {st : WS} (h : At0 E w st) (hn : 1 ≤ E.n) (low : Bool) : At (wbE E w.heap.size low) (w.alloc (.cells #[.pointer (some ⟨E.pb, 0, none⟩), .pointer (some ⟨E.lb, 0, none⟩), .bool low, .bool false, .bool false, .int .i64 (-1)] 72)) false (rsW st) := by
  have hb := (alloc_below w (.cells #[.pointer (some ⟨E.pb, 0, none⟩), .pointer (some ⟨E.lb, 0, none⟩), .bool low, .bool false, .bool false, .int .i64 (-1)] 72)).block
  have hP := h.pg.keep hn hb
  exact ⟨heap_alloc_last w _, hP.pg, (hb _ (Array.getElem?_eq_some_iff.1 h.lb).1).trans h.lb, hP.ord, hP.fx, hP.ps, h.rv.of (fun hv => hb _ (h.rv.lt hv)), h.rx.of (fun hv => hb _ (h.rx.lt hv)), h.rt.of (fun hv => hb _ (h.rt.lt hv))⟩
theorem At.at0_lb {x : Nat} {low mute : Bool} {st : WS} (h : At (wbE E x low) w mute st) : At0 E w st := ⟨⟨h.pg, h.ord, h.fx, h.ps⟩, h.lb, h.rv, h.rx, h.rt⟩
theorem Fr.below {wr : World} {o : Obj} (h : Fr E (wr.alloc o) w) (S : Sep E) (hB : E.B ≤ wr.heap.size) : Below E.B wr w := by
  refine ⟨h.os, h.tape, h.output, by rw [h.size]; simp, fun k hk => ?_⟩
  refine (h.block k ?_ ?_ ?_).trans (Below.heap_alloc wr _ k (by omega))
  · have := S.bw; omega
  · intro hv; have := S.bv hv; omega
  · intro hp; have := S.bx hp; have := S.bt hp; omega

end Go.Proofs.YtfcflnnleadpkaaGreat
