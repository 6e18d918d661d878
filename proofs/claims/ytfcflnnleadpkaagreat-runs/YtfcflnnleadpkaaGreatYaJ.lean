import Derived.Test.YtfcflnnleadpkaaGreatTjJ
import Derived.Test.YtfcflnnleadpkaaGreatRaJ
namespace Go.Proofs.YtfcflnnleadpkaaGreat
open Go.RowKit
variable {E : Env} {w w' w0 w1 wa : World}

/-- A slice of m numbers, wherever it lies. -/
def Sli (w : World) (v : Value) (m : Nat) (L : Nat → Int) : Prop := ∃ a cap, v = .slice a m cap ∧ (a = none → m = 0 ∧ cap = 0) ∧ ∀ i, i < m → ∃ ad, a = some ad ∧ w.cell? (ad.add i) = some (.int .i64 (L i))
theorem Sli.below {v : Value} {m : Nat} {L : Nat → Int} (h : Sli w v m L) (hb : Below w.heap.size w w') : Sli w' v m L := by
  obtain ⟨a, cap, rfl, h0, h⟩ := h
  refine ⟨a, cap, rfl, h0, fun i hi => ?_⟩
  obtain ⟨ad, e, hc⟩ := h i hi
  refine ⟨ad, e, ?_⟩
  have hlt := World.block_lt_of_cell? w _ hc
  rw [World.cell?_of_block (w := w) (hb.block _ hlt)]
  exact hc
/-- A row of one's own is one. -/
theorem Sli.own {B m : Nat} {v : Value} {Ls : List Value} {F : Nat → Int} (h : w.ownsRow B 3 1 v m Ls) (hF : ∀ k, k < m → Ls[k]? = some (.int .i64 (F k))) : Sli w v m F := by
  rcases h.2 with ⟨rfl, e1⟩ | ⟨g, cap, cur, rfl, hb, hg, _, _, _, ht⟩
  · subst e1
    exact ⟨none, 0, rfl, fun _ => ⟨rfl, rfl⟩, fun i hi => by omega⟩
  · refine ⟨_, _, rfl, (fun h => by cases h), fun k hk => ⟨_, rfl, ?_⟩⟩
    have h2 : (cur.toList.take (m * 1))[k]? = Ls[k]? := by rw [ht]
    rw [List.getElem?_take_of_lt (by omega)] at h2
    simp only [Array.getElem?_toList] at h2
    have e : (Addr.mk g 0 none).add k = ⟨g, k, none⟩ := by simp [Addr.add]; omega
    rw [e, cell_of_row w g k cur _ _ hg, h2, hF k hk]
theorem Sli.congr {v : Value} {m : Nat} {L M : Nat → Int} (h : Sli w v m L) (e : ∀ i, i < m → L i = M i) : Sli w v m M := by
  obtain ⟨a, cap, rfl, h0, h⟩ := h
  exact ⟨a, cap, rfl, h0, fun i hi => by rw [← e i hi]; exact h i hi⟩
theorem Rw.sli {g m cap : Nat} {F : Nat → Int} (h : Rw w g m F) : Sli w (sl m g cap) m F := by
  rcases Nat.eq_zero_or_pos m with hz | hz
  · subst hz
    unfold sl
    rw [if_pos rfl]
    split
    · exact ⟨none, 0, rfl, fun _ => ⟨rfl, rfl⟩, fun i hi => by omega⟩
    · exact ⟨_, _, rfl, (fun h => by cases h), fun i hi => by omega⟩
  · rw [sl_pos hz]
    refine ⟨_, _, rfl, (fun h => by cases h), fun k hk => ⟨_, rfl, ?_⟩⟩
    have e : (Addr.mk g 0 none).add k = ⟨g, k, none⟩ := by simp [Addr.add]; omega
    rw [e]
    exact h.cell hk
/-- A labelling in memory, as lists. -/
def lbS (V X T : List Nat) : WS := ⟨fun k => V.getD k 0, fun k => X.getD k 0, fun k => T.getD k 0, false, -1⟩
theorem LI.at0g {vv xv tv : Value} {V X T : List Nat} (h : LI w0 w vv xv tv V X T) (lV : V.length = E.nv) (lX : X.length = E.np) (lT : T.length = E.np) (hn : 1 ≤ E.n) (P0 : Pg E w0) :
    ∃ gv cv gx cx gt ct, At0 (lbE E w0.heap.size gv cv gx cx gt ct) w (lbS V X T) ∧ ∀ x low, w0.heap.size ≤ x → Sep (wbE (lbE E w0.heap.size gv cv gx cx gt ct) x low) := by
  have P := P0.below hn h.bel
  obtain ⟨gv, cv, ev, bv, rv⟩ := own_sl h.vown (fun k hk => cells_get hk)
  obtain ⟨gx, cx, ex, bx, rx⟩ := own_sl h.xown (fun k hk => cells_get hk)
  obtain ⟨gt, ct, et, bt', rt⟩ := own_sl h.town (fun k hk => cells_get hk)
  rw [lV] at ev bv rv
  rw [lX] at ex bx rx
  rw [lT] at et bt' rt
  have hvx := h.vx
  have hvt := h.vt
  have hxt := h.xt
  refine ⟨gv, cv, gx, cx, gt, ct, ⟨⟨P.pg, P.ord, P.fx, P.ps⟩, ?_, rv, rx, rt⟩, fun x low hx => ⟨P0.obl, P0.gl hn, fun i hi => P0.rbl hi, hx, ?_, ?_, ?_, ?_, ?_, ?_, ?_, ?_, ?_, ?_, ?_, ?_⟩⟩
  · have := h.lab
    rw [ev, ex, et] at this
    exact this
  · intro hv; have := (bv hv).1; simp only [wbE, lbE]; omega
  · intro hv; have := (bx hv).1; simp only [wbE, lbE]; omega
  · intro hv; have := (bt' hv).1; simp only [wbE, lbE]; omega
  · intro hv hp e
    simp only [wbE, lbE] at e
    rw [(bx hp).2, (bv hv).2, e] at hvx
    simp at hvx
  · intro hv hp e
    simp only [wbE, lbE] at e
    rw [(bt' hp).2, (bv hv).2, e] at hvt
    simp at hvt
  · intro hv e
    have := (bv hv).1
    have := P0.fx.lt hv
    simp only [wbE, lbE] at e
    omega
  · intro hv hp e
    have := (bv hv).1
    have := P0.ps.lt hp
    simp only [wbE, lbE] at e
    omega
  · intro hp e
    simp only [wbE, lbE] at e
    rw [(bt' hp).2, (bx hp).2, e] at hxt
    simp at hxt
  · intro hv hp e
    have := (bx hp).1
    have := P0.fx.lt hv
    simp only [wbE, lbE] at e
    omega
  · intro hp e
    have := (bx hp).1
    have := P0.ps.lt hp
    simp only [wbE, lbE] at e
    omega
  · intro hv hp e
    have := (bt' hp).1
    have := P0.fx.lt hv
    simp only [wbE, lbE] at e
    omega
  · intro hp e
    have := (bt' hp).1
    have := P0.ps.lt hp
    simp only [wbE, lbE] at e
    omega

/-- The parts of a list: the variables' levels, the contexts, the throws. -/
def spV (L : Nat → Int) (k : Nat) : List Nat := (List.range k).map (fun j => (L j).toNat)
def spX (L : Nat → Int) (nv k : Nat) : List Nat := (List.range k).map (fun j => (L (nv + 2 * j)).toNat)
def spT (L : Nat → Int) (nv k : Nat) : List Nat := (List.range k).map (fun j => (L (nv + 2 * j + 1)).toNat)
theorem spV_len (L : Nat → Int) (k : Nat) : (spV L k).length = k := by simp [spV]
theorem spX_len (L : Nat → Int) (nv k : Nat) : (spX L nv k).length = k := by simp [spX]
theorem spT_len (L : Nat → Int) (nv k : Nat) : (spT L nv k).length = k := by simp [spT]
theorem spV_succ (L : Nat → Int) (k : Nat) : spV L k ++ [(L k).toNat] = spV L (k + 1) := by unfold spV; rw [List.range_succ, List.map_append]; rfl
theorem spX_succ (L : Nat → Int) (nv k : Nat) : spX L nv k ++ [(L (nv + 2 * k)).toNat] = spX L nv (k + 1) := by unfold spX; rw [List.range_succ, List.map_append]; rfl
theorem spT_succ (L : Nat → Int) (nv k : Nat) : spT L nv k ++ [(L (nv + 2 * k + 1)).toNat] = spT L nv (k + 1) := by unfold spT; rw [List.range_succ, List.map_append]; rfl
/-- The first k of a list, split. -/
def LK (w0 w : World) (vv xv tv : Value) (L : Nat → Int) (nv k : Nat) : Prop := LI w0 w vv xv tv (spV L (min k nv)) (spX L nv ((k - nv + 1) / 2)) (spT L nv ((k - nv) / 2))
theorem LK_init (w : World) (L : Nat → Int) (nv : Nat) : LK w (w.alloc (.cells #[.slice none 0 0, .slice none 0 0, .slice none 0 0] 100)) (.slice none 0 0) (.slice none 0 0) (.slice none 0 0) L nv 0 := by
  have h := LI_init w
  unfold LK
  rw [Nat.zero_min, Nat.zero_sub]
  exact h

theorem LK.stepV {vv xv tv : Value} {L : Nat → Int} {nv gg cap k x : Nat} (h : LK w0 w vv xv tv L nv k) (hk : k < nv) (hx : L k = (x : Int)) (hwa : wa.heap.size = w.heap.size + 1) (hab : Below w.heap.size w wa)
    (hown1 : w1.ownsRow (w0.heap.size + 1) 3 1 (.slice (some ⟨gg, 0, none⟩) (k + 1) cap) (k + 1) (cells (spV L k) ++ [.int .i64 (x : Int)]))
    (hgrow : wa.grownBy w1 vv.ownBlock) (hat : vv.ownBlock = some gg ∨ gg = w.heap.size + 1) :
    LK w0 (w1.setCell ⟨w0.heap.size, 0, none⟩ (.slice (some ⟨gg, 0, none⟩) (k + 1) cap)) (.slice (some ⟨gg, 0, none⟩) (k + 1) cap) xv tv L nv (k + 1) := by
  unfold LK at *
  have e1 : min k nv = k := by omega
  have e2 : min (k + 1) nv = k + 1 := by omega
  have e3 : (k + 1 - nv + 1) / 2 = (k - nv + 1) / 2 := by omega
  have e4 : (k + 1 - nv) / 2 = (k - nv) / 2 := by omega
  rw [e1] at h
  rw [e2, e3, e4]
  have e := spV_len L k
  have h2 := h.pushV (x := x) hwa hab (by rw [e]; exact hown1) hgrow hat
  have e5 : x = (L k).toNat := by omega
  rw [e5, spV_succ, e] at h2
  exact h2
theorem LK.stepX {vv xv tv : Value} {L : Nat → Int} {nv gg cap k x q : Nat} (h : LK w0 w vv xv tv L nv k) (hk : k = nv + 2 * q) (hx : L k = (x : Int)) (hwa : wa.heap.size = w.heap.size + 1) (hab : Below w.heap.size w wa)
    (hown1 : w1.ownsRow (w0.heap.size + 1) 3 1 (.slice (some ⟨gg, 0, none⟩) (q + 1) cap) (q + 1) (cells (spX L nv q) ++ [.int .i64 (x : Int)]))
    (hgrow : wa.grownBy w1 xv.ownBlock) (hat : xv.ownBlock = some gg ∨ gg = w.heap.size + 1) :
    LK w0 (w1.setCell ⟨w0.heap.size, 1, none⟩ (.slice (some ⟨gg, 0, none⟩) (q + 1) cap)) vv (.slice (some ⟨gg, 0, none⟩) (q + 1) cap) tv L nv (k + 1) := by
  unfold LK at *
  have e1 : min k nv = nv := by omega
  have e2 : min (k + 1) nv = nv := by omega
  have e3 : (k - nv + 1) / 2 = q := by omega
  have e4 : (k + 1 - nv + 1) / 2 = q + 1 := by omega
  have e6 : (k - nv) / 2 = q := by omega
  have e7 : (k + 1 - nv) / 2 = q := by omega
  rw [e1, e3, e6] at h
  rw [e2, e4, e7]
  have e := spX_len L nv q
  have h2 := h.pushX (x := x) hwa hab (by rw [e]; exact hown1) hgrow hat
  have e5 : x = (L (nv + 2 * q)).toNat := by rw [← hk]; omega
  rw [e5, spX_succ, e] at h2
  exact h2
theorem LK.stepT {vv xv tv : Value} {L : Nat → Int} {nv gg cap k x q : Nat} (h : LK w0 w vv xv tv L nv k) (hk : k = nv + 2 * q + 1) (hx : L k = (x : Int)) (hwa : wa.heap.size = w.heap.size + 1) (hab : Below w.heap.size w wa)
    (hown1 : w1.ownsRow (w0.heap.size + 1) 3 1 (.slice (some ⟨gg, 0, none⟩) (q + 1) cap) (q + 1) (cells (spT L nv q) ++ [.int .i64 (x : Int)]))
    (hgrow : wa.grownBy w1 tv.ownBlock) (hat : tv.ownBlock = some gg ∨ gg = w.heap.size + 1) :
    LK w0 (w1.setCell ⟨w0.heap.size, 2, none⟩ (.slice (some ⟨gg, 0, none⟩) (q + 1) cap)) vv xv (.slice (some ⟨gg, 0, none⟩) (q + 1) cap) L nv (k + 1) := by
  unfold LK at *
  have e1 : min k nv = nv := by omega
  have e2 : min (k + 1) nv = nv := by omega
  have e3 : (k - nv + 1) / 2 = q + 1 := by omega
  have e4 : (k + 1 - nv + 1) / 2 = q + 1 := by omega
  have e6 : (k - nv) / 2 = q := by omega
  have e7 : (k + 1 - nv) / 2 = q + 1 := by omega
  rw [e1, e3, e6] at h
  rw [e2, e4, e7]
  have e := spT_len L nv q
  have h2 := h.pushT (x := x) hwa hab (by rw [e]; exact hown1) hgrow hat
  have e5 : x = (L (nv + 2 * q + 1)).toNat := by rw [← hk]; omega
  rw [e5, spT_succ, e] at h2
  exact h2

theorem LI.drewN {vv xv tv : Value} {V X T : List Nat} (h : LI w0 w vv xv tv V X T) (q : Nat) : LI w0 (w.drewN q) vv xv tv V X T := ⟨h.lab, h.vown, h.xown, h.town, h.vx, h.vt, h.xt, below_drewN2 h.bel q⟩
theorem LK.vrow {vv xv tv : Value} {L : Nat → Int} {nv k : Nat} (h : LK w0 w vv xv tv L nv k) (hk : k < nv) : ∃ a cp, vv = .slice a k cp ∧ w.ownsRow (w0.heap.size + 1) 3 1 (.slice a k cp) k (cells (spV L k)) ∧ some w0.heap.size ≠ (Value.slice a k cp).ownBlock := by
  unfold LK at h
  have e1 : min k nv = k := by omega
  rw [e1] at h
  exact h.vrow (spV_len L k)
theorem LK.xrow {vv xv tv : Value} {L : Nat → Int} {nv k q : Nat} (h : LK w0 w vv xv tv L nv k) (hk : k = nv + 2 * q) : ∃ a cp, xv = .slice a q cp ∧ w.ownsRow (w0.heap.size + 1) 3 1 (.slice a q cp) q (cells (spX L nv q)) ∧ some w0.heap.size ≠ (Value.slice a q cp).ownBlock := by
  unfold LK at h
  have e1 : (k - nv + 1) / 2 = q := by omega
  rw [e1] at h
  exact h.xrow (spX_len L nv q)
theorem LK.trow {vv xv tv : Value} {L : Nat → Int} {nv k q : Nat} (h : LK w0 w vv xv tv L nv k) (hk : k = nv + 2 * q + 1) : ∃ a cp, tv = .slice a q cp ∧ w.ownsRow (w0.heap.size + 1) 3 1 (.slice a q cp) q (cells (spT L nv q)) ∧ some w0.heap.size ≠ (Value.slice a q cp).ownBlock := by
  unfold LK at h
  have e1 : (k - nv) / 2 = q := by omega
  rw [e1] at h
  exact h.trow (spT_len L nv q)
theorem LK.li {vv xv tv : Value} {L : Nat → Int} {nv k : Nat} (h : LK w0 w vv xv tv L nv k) : LI w0 w vv xv tv (spV L (min k nv)) (spX L nv ((k - nv + 1) / 2)) (spT L nv ((k - nv) / 2)) := h

end Go.Proofs.YtfcflnnleadpkaaGreat

namespace Go.Proofs.YtfcflnnleadpkaaGreat
open Go.RowKit

/-- The cells of what was put out. -/
def evC (es : List (Nat × Nat)) : List Value := es.flatMap (fun e => [.int .i64 (e.1 : Int), .int .i64 (e.2 : Int)])
theorem evC_len (es : List (Nat × Nat)) : (evC es).length = es.length * 2 := by
  induction es with
  | nil => rfl
  | cons e es ih =>
    have h : evC (e :: es) = [.int .i64 (e.1 : Int), .int .i64 (e.2 : Int)] ++ evC es := rfl
    rw [h, List.length_append, ih]; simp; omega
theorem evC_app (es fs : List (Nat × Nat)) : evC (es ++ fs) = evC es ++ evC fs := by unfold evC; rw [List.flatMap_append]

/-- The inputs in memory: what each level's list comes to. -/
def InpR (w : World) (iv : Value) (n : Nat) (inp : Nat → List Nat) : Prop :=
  ∃ a len cap, iv = .slice a len cap ∧ ∀ d, d < n → (d < len → ∃ (ad : Addr) (ra : Option Addr) (rl rc : Nat) (Z : Nat → Int), a = some ad ∧ w.cell? (ad.add d) = some (.slice ra rl rc) ∧ (∀ j, j < rl → ∃ rad, ra = some rad ∧ w.cell? (rad.add j) = some (.int .i64 (Z j))) ∧ inp d = (List.range rl).map (fun j => (Z j % 65536).toNat)) ∧ (len ≤ d → inp d = [])
theorem InpR.below {w w' : World} {iv : Value} {n : Nat} {inp : Nat → List Nat} (h : InpR w iv n inp) (hb : Below w.heap.size w w') : InpR w' iv n inp := by
  obtain ⟨a, len, cap, rfl, h⟩ := h
  refine ⟨a, len, cap, rfl, fun d hd => ⟨fun hl => ?_, (h d hd).2⟩⟩
  obtain ⟨ad, ra, rl, rc, Z, e1, c1, c2, e2⟩ := (h d hd).1 hl
  refine ⟨ad, ra, rl, rc, Z, e1, (World.cell?_of_block (w := w) (hb.block _ (World.block_lt_of_cell? w _ c1))).trans c1, fun j hj => ?_, e2⟩
  obtain ⟨rad, e3, c3⟩ := c2 j hj
  exact ⟨rad, e3, (World.cell?_of_block (w := w) (hb.block _ (World.block_lt_of_cell? w _ c3))).trans c3⟩

theorem ownsRow_keep2 {w w' : World} {B n sz : Nat} {e : TypeId} {l : Value} {xs : List Value} (h : w.ownsRow B e sz l n xs) (hb : ∀ g, l.ownBlock = some g → w'.heap[g]? = w.heap[g]?) : w'.ownsRow B e sz l n xs := by
  refine ⟨h.1, ?_⟩
  rcases h.2 with hn | ⟨g, cap, cur, rfl, hb0, hg, rest⟩
  · exact Or.inl hn
  · exact Or.inr ⟨g, cap, cur, rfl, hb0, (hb g rfl).trans hg, rest⟩

def tupV (x : Option Nat) : Value := match x with
  | none => .tuple #[.int .i64 0, .bool false]
  | some v => .tuple #[.int .i64 (v : Int), .bool true]
theorem opV_add {a b : Nat} : opV 43 a b = some ((a + b) % 65536) := rfl
theorem opV_sub {a b : Nat} : opV 45 a b = some ((a + 65536 - b) % 65536) := rfl
theorem opV_mul {a b : Nat} : opV 42 a b = some (a * b % 65536) := rfl
theorem opV_div0 {a : Nat} : opV 47 a 0 = none := rfl
theorem opV_div {a b : Nat} (h : b ≠ 0) : opV 47 a b = some (a / b) := by
  have : opV 47 a b = if b = 0 then none else some (a / b) := rfl
  rw [this, if_neg h]
theorem opV_lt1 {a b : Nat} (h : a < b) : opV 60 a b = some 1 := by
  have : opV 60 a b = some (if a < b then 1 else 0) := rfl
  rw [this, if_pos h]
theorem opV_lt0 {a b : Nat} (h : ¬ a < b) : opV 60 a b = some 0 := by
  have : opV 60 a b = some (if a < b then 1 else 0) := rfl
  rw [this, if_neg h]
theorem tmod_nat (m : Nat) : ((m : Int)).tmod 65536 = ((m % 65536 : Nat) : Int) := by
  rw [show (65536 : Int) = ((65536 : Nat) : Int) from rfl, ← Int.ofNat_tmod]
theorem isOp_five {x : Int} (h : isOp x = true) : x = 43 ∨ x = 45 ∨ x = 42 ∨ x = 47 ∨ x = 60 := by
  unfold isOp at h
  simp at h
  omega

theorem mod_neg {x : Int} (h : x.tmod 65536 < 0) : x.tmod 65536 + 65536 = x % 65536 := by
  rw [Int.tmod_eq_emod] at h ⊢
  have e : Int.natAbs 65536 = 65536 := rfl
  by_cases h1 : 0 ≤ x ∨ (65536 : Int) ∣ x
  · rw [if_pos h1] at h ⊢; omega
  · rw [if_neg h1] at h ⊢; omega
theorem mod_pos {x : Int} (h : ¬ x.tmod 65536 < 0) : x.tmod 65536 = x % 65536 := by
  rw [Int.tmod_eq_emod] at h ⊢
  have e : Int.natAbs 65536 = 65536 := rfl
  by_cases h1 : 0 ≤ x ∨ (65536 : Int) ∣ x
  · rw [if_pos h1] at h ⊢; omega
  · rw [if_neg h1] at h ⊢; omega

def mdV (x : Int) : Nat := (x % 65536).toNat
theorem mdV_eq (x : Int) : (mdV x : Int) = x % 65536 := by unfold mdV; omega
/-- The states of a run. -/
structure RunI (n : Nat) (st : RS) : Prop where
  sane : Sane n st
  out : st.out.length + st.fuel ≤ 10000
  tk : ∀ d, st.tk d + st.fuel ≤ 10000
theorem InpR.lt {w : World} {iv : Value} {n : Nat} {inp : Nat → List Nat} (h : InpR w iv n inp) : ∀ d, d < n → ∀ x, x ∈ inp d → x < 65536 := by
  obtain ⟨a, len, cap, rfl, h⟩ := h
  intro d hd x hx
  rcases Nat.lt_or_ge d len with hl | hl
  · obtain ⟨ad, ra, rl, rc, Z, _, _, _, e2⟩ := (h d hd).1 hl
    rw [e2] at hx
    obtain ⟨j, _, rfl⟩ := List.mem_map.1 hx
    omega
  · rw [(h d hd).2 hl] at hx; simp at hx

section
variable {n : Nat} {st : RS}
theorem RunI.of (h : RunI n st) {r : RS} (hs : Sane n r) (hg : Grow st r) : RunI n r := by
  refine ⟨hs, ?_, fun d => ?_⟩
  · obtain ⟨l, e, hl⟩ := hg.out
    have := h.out
    rw [e, List.length_append]; omega
  · have := h.tk d
    have := (hg.tk d).2
    omega
theorem RunI.dec (h : RunI n st) : RunI n (Go.Proofs.YtfcflnnleadpkaaGreat.dec st) := h.of ⟨h.sane.V, h.sane.out⟩ (Grow.dec st)
theorem lpW_none {run : RS → RS × Nat} {ev : (Nat → Nat) → Option Nat} {n : Nat} (h : ev st.V = none) : lpW run ev n st = (st, 2) := by cases n <;> (simp only [lpW]; rw [h])
theorem lpW_zero {run : RS → RS × Nat} {ev : (Nat → Nat) → Option Nat} {n : Nat} (h : ev st.V = some 0) : lpW run ev n st = (st, 1) := by cases n <;> (simp only [lpW]; rw [h]; rfl)
theorem lpW_stop {run : RS → RS × Nat} {ev : (Nat → Nat) → Option Nat} {n y : Nat} (h : ev st.V = some y) (hy : y ≠ 0) (hr : (run st).2 ≠ 1) : lpW run ev n st = run st := by
  cases n <;> (simp only [lpW]; rw [h]; simp only; rw [if_neg hy, if_neg hr])
theorem lpW_spent {run : RS → RS × Nat} {ev : (Nat → Nat) → Option Nat} {n y : Nat} (h : ev st.V = some y) (hy : y ≠ 0) (hr : (run st).2 = 1) (hf : (run st).1.fuel = 0) : lpW run ev n st = ((run st).1, 0) := by
  cases n with
  | zero => simp only [lpW]; rw [h]; simp only; rw [if_neg hy, if_pos hr]
  | succ n => simp only [lpW]; rw [h]; simp only; rw [if_neg hy, if_pos hr, if_pos hf]
theorem lpW_go {run : RS → RS × Nat} {ev : (Nat → Nat) → Option Nat} {n y : Nat} (h : ev st.V = some y) (hy : y ≠ 0) (hr : (run st).2 = 1) (hf : (run st).1.fuel ≠ 0) : lpW run ev (n + 1) st = lpW run ev n { (run st).1 with fuel := (run st).1.fuel - 1 } := by
  simp only [lpW]; rw [h]; simp only; rw [if_neg hy, if_pos hr, if_neg hf]

end
theorem thenR {e : Nat} {r : RS × Nat} {g : RS → RS × Nat} : thenW e r g = if r.2 = e then g r.1 else r := rfl

/-- A whole run. -/
def ecR (E : Env) (inp : Nat → List Nat) (fuel : Nat) : RS × Nat := exS (bt E.s) inp (fun k => (E.P k).toNat) (E.s.size + 1) 10000 E.main 0 ⟨fun _ => 0, fun _ => 0, [], fuel⟩

theorem sane0 {n fuel : Nat} (hf : fuel ≤ 10000) : RunI n ⟨fun _ => 0, fun _ => 0, [], fuel⟩ := ⟨⟨fun _ => by show 0 < 65536; omega, fun e he => by simp at he⟩, by simpa using hf, fun d => by simpa using hf⟩


end Go.Proofs.YtfcflnnleadpkaaGreat

namespace Go.Proofs.YtfcflnnleadpkaaGreat

variable {c : Nat → Int} {nv N np : Nat}
/-- Every call in the list is of a procedure that is there. -/
def CallsIn (c : Nat → Int) (np : Nat) (D : List Nat) : Prop := ∀ k, k ∈ D → isDB (c k) 4 = true → isDB (c k) np = true

theorem scS_wf (f : Nat) : ∀ (i j : Nat) (C D : List Nat), scS c nv N f i C = (j, false, D) → (∀ k, k ∈ C → k ∈ D) ∧ (CallsIn c np D → wfS c nv N np f i = (j, false)) := by
  induction f with
  | zero => intro i j C D h; simp [scS] at h
  | succ f ih =>
    intro i j C D h
    have hS : ∀ i, thenS (scS c nv N f i C) (scS c nv N f) = (j, false, D) → (∀ k, k ∈ C → k ∈ D) ∧ (CallsIn c np D → (wfS c nv N np f i).2 = false ∧ wfS c nv N np f (wfS c nv N np f i).1 = (j, false)) := by
      intro i h
      unfold thenS at h
      split at h
      · rename_i hb; rw [h] at hb; simp at hb
      · rename_i hb
        simp only [Bool.not_eq_true] at hb
        obtain ⟨a1, a2⟩ := ih i (scS c nv N f i C).1 C (scS c nv N f i C).2.2 (by rw [← hb])
        obtain ⟨b1, b2⟩ := ih _ _ _ _ h
        refine ⟨fun k hk => b1 k (a1 k hk), fun hD => ?_⟩
        rw [a2 (fun k hk => hD k (b1 k hk))]
        exact ⟨rfl, b2 hD⟩
    simp only [scS] at h
    simp only [wfS]
    by_cases c1 : c i = 46 ∨ c i = 120
    · rw [if_pos c1] at h ⊢
      simp only [Prod.mk.injEq] at h
      obtain ⟨rfl, _, rfl⟩ := h
      exact ⟨fun _ h => h, fun _ => rfl⟩
    rw [if_neg c1] at h ⊢
    by_cases c2 : c i = 44 ∨ c i = 116
    · rw [if_pos c2] at h ⊢
      obtain ⟨a1, a2⟩ := hS _ h
      refine ⟨a1, fun hD => ?_⟩
      obtain ⟨b1, b2⟩ := a2 hD
      rw [b1]; simp only [Bool.false_eq_true, if_false]; exact b2
    rw [if_neg c2] at h ⊢
    by_cases c3 : c i = 61
    · rw [if_pos c3] at h ⊢
      split at h
      · rename_i hv
        rw [if_pos hv]
        unfold thenE at h
        split at h
        · simp at h
        · rename_i hb
          simp only [Bool.not_eq_true] at hb
          simp only [Prod.mk.injEq] at h
          obtain ⟨rfl, _, rfl⟩ := h
          exact ⟨fun _ h => h, fun _ => by rw [← hb]⟩
      · simp at h
    rw [if_neg c3] at h ⊢
    by_cases c4 : c i = 105
    · rw [if_pos c4] at h ⊢
      unfold thenE at h
      split at h
      · simp at h
      · rename_i hb
        rw [if_neg hb]
        obtain ⟨a1, a2⟩ := hS _ h
        refine ⟨a1, fun hD => ?_⟩
        obtain ⟨b1, b2⟩ := a2 hD
        rw [b1]; simp only [Bool.false_eq_true, if_false]; exact b2
    rw [if_neg c4] at h ⊢
    by_cases c5 : c i = 119
    · rw [if_pos c5] at h ⊢
      unfold thenE at h
      split at h
      · simp at h
      · rename_i hb
        rw [if_neg hb]
        exact ih _ _ _ _ h
    rw [if_neg c5] at h ⊢
    by_cases c6 : c i = 114
    · rw [if_pos c6] at h ⊢
      split at h
      · rename_i hd
        split at h
        · rename_i hv
          rw [if_pos ⟨hd, hv⟩]
          simp only [Prod.mk.injEq] at h
          obtain ⟨rfl, _, rfl⟩ := h
          exact ⟨fun _ h => h, fun _ => rfl⟩
        · simp at h
      · simp at h
    rw [if_neg c6] at h ⊢
    by_cases c7 : c i = 111
    · rw [if_pos c7] at h ⊢
      split at h
      · rename_i hd
        rw [if_pos hd]
        unfold thenE at h
        split at h
        · simp at h
        · rename_i hb
          simp only [Bool.not_eq_true] at hb
          simp only [Prod.mk.injEq] at h
          obtain ⟨rfl, _, rfl⟩ := h
          exact ⟨fun _ h => h, fun _ => by rw [← hb]⟩
      · simp at h
    rw [if_neg c7] at h ⊢
    by_cases c8 : c i = 99
    · rw [if_pos c8] at h ⊢
      split at h
      · rename_i hd
        simp only [Prod.mk.injEq] at h
        obtain ⟨rfl, _, rfl⟩ := h
        refine ⟨fun k hk => by simp [hk], fun hD => ?_⟩
        rw [if_pos (hD (i + 1) (by simp) hd)]
      · simp at h
    rw [if_neg c8] at h
    simp at h

theorem scPr_wf {sz f : Nat} (g : Nat) : ∀ (i j : Nat) (C P D Ps : List Nat), scPr c nv N sz f g i C P = (j, false, D, Ps) → (∀ k, k ∈ C → k ∈ D) ∧ (P.length ≤ 4 → Ps.length ≤ 4) ∧ (CallsIn c np D → ∀ m, m ∈ Ps → m ∈ P ∨ ∃ j, wfS c nv N np f m = (j, false)) := by
  induction g with
  | zero => intro i j C P D Ps h; simp [scPr] at h
  | succ g ih =>
    intro i j C P D Ps h
    simp only [scPr] at h
    split at h
    · split at h
      · rename_i hp
        split at h
        · simp at h
        · rename_i hb
          simp only [Bool.not_eq_true] at hb
          obtain ⟨a1, a2⟩ := scS_wf (np := np) f (i + 1) (scS c nv N f (i + 1) C).1 C (scS c nv N f (i + 1) C).2.2 (by rw [← hb])
          obtain ⟨b1, b2, b3⟩ := ih _ _ _ _ _ _ h
          refine ⟨fun k hk => b1 k (a1 k hk), fun _ => b2 (by simp; omega), fun hD m hm => ?_⟩
          rcases b3 hD m hm with hm' | hm'
          · rw [List.mem_append] at hm'
            rcases hm' with h1 | h1
            · exact Or.inl h1
            · simp at h1
              subst h1
              exact Or.inr ⟨_, a2 (fun k hk => hD k (b1 k hk))⟩
          · exact Or.inr hm'
      · simp at h
    · simp only [Prod.mk.injEq] at h
      obtain ⟨_, _, rfl, rfl⟩ := h
      exact ⟨fun _ h => h, fun h => h, fun _ m hm => Or.inl hm⟩

theorem badCall_none {n : Nat} : ∀ {D : List Nat}, badCall c n D = none → ∀ k, k ∈ D → ¬ (n : Int) ≤ dgt (c k) 4 := by
  intro D
  induction D with
  | nil => intro _ k hk; cases hk
  | cons a r ih =>
    intro h k hk
    simp only [badCall] at h
    split at h
    · cases h
    · rename_i hn
      rcases List.mem_cons.1 hk with rfl | hk
      · exact hn
      · exact ih h k hk
theorem nvOf_le (c : Nat → Int) (N : Nat) : nvOf c N ≤ 8 := by
  unfold nvOf
  have : ∀ f k, cntV c N f k ≤ k + f := by
    intro f
    induction f with
    | zero => intro k; simp [cntV]
    | succ f ih =>
      intro k
      simp only [cntV]
      split
      · have := ih (k + 1); omega
      · omega
  exact this 8 0

/-- A text that is read without an error: its parts are whole. -/
theorem prE_parts {s : ByteArray} {N : Nat} (h : prE s N = 0) : s.size ≤ 300 ∧ prNv s N ≤ 8 ∧ (prPs s N).length ≤ 4 ∧
    (∃ j, wfS (bt s) (prNv s N) N (prPs s N).length (s.size + 1) (prNv s N + 1) = (j, false)) ∧
    ∀ m, m ∈ prPs s N → ∃ j, wfS (bt s) (prNv s N) N (prPs s N).length (s.size + 1) m = (j, false) := by
  unfold prE at h
  split at h
  · omega
  rename_i hs
  split at h
  · omega
  rename_i hb
  split at h
  · omega
  rename_i hc
  simp only [Bool.not_eq_true] at hb
  have hc' : prC s N = none := by cases e : prC s N with | none => rfl | some k => rw [e] at hc; simp at hc
  unfold prC at hc'
  have hbad := badCall_none hc'
  have hD : CallsIn (bt s) (prPs s N).length (prA s N).2.2.1 := by
    intro k hk h4
    have h1 := hbad k hk
    have h2 := (isDB_iff _ _).1 h4
    rw [dgt_yes h2] at h1
    refine (isDB_iff _ _).2 ⟨h2.1, h2.2.1, ?_⟩
    show bt s k - 48 < ((prA s N).2.2.2.length : Int)
    omega
  refine ⟨by omega, nvOf_le _ _, ?_⟩
  have hA : prA s N = parseAll (bt s) N s.size := rfl
  unfold parseAll at hA
  split at hA
  · split at hA
    · rw [hA] at hb; simp at hb
    · rename_i hm
      simp only [Bool.not_eq_true] at hm
      obtain ⟨a1, a2⟩ := scS_wf (np := (prPs s N).length) (s.size + 1) (nvOf (bt s) N + 1) (scS (bt s) (nvOf (bt s) N) N (s.size + 1) (nvOf (bt s) N + 1) []).1 [] (scS (bt s) (nvOf (bt s) N) N (s.size + 1) (nvOf (bt s) N + 1) []).2.2 (by rw [← hm])
      obtain ⟨b1, b2, b3⟩ := scPr_wf (np := (prPs s N).length) 5 _ (prA s N).1 _ _ (prA s N).2.2.1 (prA s N).2.2.2 (by rw [← hA, ← hb])
      refine ⟨b2 (by simp), ⟨_, a2 (fun k hk => hD k (b1 k hk))⟩, fun m hm => ?_⟩
      rcases b3 hD m hm with h1 | h1
      · cases h1
      · exact h1
  · rw [hA] at hb; simp at hb

end Go.Proofs.YtfcflnnleadpkaaGreat

namespace Go.Proofs.YtfcflnnleadpkaaGreat
open Go.RowKit

/-- A program, wherever it lies. -/
def pE (R : Nat → Nat → Bool) (s : ByteArray) (n : Nat) : Env :=
  { wb := 0, pb := 0, lb := 0, ob := 0, g := 0, cap := 0, n := n, nv := prNv s n, np := (prPs s n).length, main := prNv s n + 1, gv := 0, cv := 0, gx := 0, cx := 0, gt := 0, ct := 0, gf := 0, cf := 0, gp := 0, cp := 0,
    rb := fun _ => 0, R := R, s := s, low := false, P := fun k => (((prPs s n).getD k 0 : Nat) : Int), B := 0 }
/-- The same program, maybe elsewhere. -/
structure Same (E E' : Env) : Prop where
  s : E.s = E'.s
  R : E.R = E'.R
  n : E.n = E'.n
  nv : E.nv = E'.nv
  np : E.np = E'.np
  main : E.main = E'.main
  P : E.P = E'.P
theorem stepW_same {E E' : Env} (h : Same E E') (f : Nat) (st : WS) : stepW E f st = stepW E' f st := by
  unfold stepW allW
  have e := allTo_env (E := { E' with low := true }) (E' := { E with low := true }) h.s h.R h.n rfl h.P h.main f (rsW st)
  rw [e]
  show (allTo { E' with low := true } f (rsW st) E.np).2 = _
  rw [h.np]
theorem lowR_same {E E' : Env} (h : Same E E') (f : Nat) : ∀ g b st, lowR E f g b st = lowR E' f g b st := by
  intro g
  induction g with
  | zero => intro b st; rfl
  | succ g ih => intro b st; simp only [lowR]; rw [stepW_same h, ih]
theorem st0_same {E E' : Env} (h : Same E E') : st0 E = st0 E' := by
  have hv : v0 E = v0 E' := by funext k; unfold v0; rw [h.s, h.n, h.R]
  unfold st0; rw [hv, h.R, h.n]
theorem lowW_same {E E' : Env} (h : Same E E') (f : Nat) : lowW E f = lowW E' f := by
  unfold lowW; rw [lowR_same h, st0_same h]
theorem tdP_same {E E' : Env} (h : Same E E') (f : Nat) (V X T : Nat → Nat) (k : Nat) : tdP E f V X T k = tdP E' f V X T k := by unfold tdP; rw [h.s, h.R, h.n, h.P]
theorem allD_same {E E' : Env} (h : Same E E') (f : Nat) (V X T : Nat → Nat) : ∀ k, allD E f V X T k = allD E' f V X T k := by
  intro k
  induction k with
  | zero => simp only [allD]; unfold tdM; rw [h.s, h.R, h.n, h.main]
  | succ k ih => simp only [allD]; rw [ih, tdP_same h]
theorem okT_same {E E' : Env} (h : Same E E') (f : Nat) (V X T : Nat → Nat) : ∀ k, okT E f V X T k = okT E' f V X T k := by
  intro k
  induction k with
  | zero => rfl
  | succ k ih => simp only [okT]; rw [ih, tdP_same h, h.R, h.n]

/-- The lowest labelling of a program; its first bad place. -/
def ckL (o s : ByteArray) (n : Nat) : WS := lowW (pE (cl o n) s n) (s.size + 1)
def ckD (o s : ByteArray) (n : Nat) : List Dm := allD (pE (cl o n) s n) (s.size + 1) (ckL o s n).V (ckL o s n).X (ckL o s n).T (prPs s n).length
def ckB (o s : ByteArray) (n : Nat) : Int := bdF (cl o n) (ckL o s n).V (ckL o s n).X (ckD o s n) (-1)
/-- What checking comes to: the error, the place, the number of levels. -/
def CkPost (o s : ByteArray) (e p : Int) (n : Nat) : Prop :=
  (ReadPost o e p n ∧ e ≠ 0) ∨ (ReadPost o 0 0 n ∧ prE s n ≠ 0 ∧ e = prE s n ∧ p = prP s n) ∨
  (ReadPost o 0 0 n ∧ prE s n = 0 ∧ 0 ≤ ckB o s n ∧ e = 6 ∧ p = ckB o s n) ∨ (ReadPost o 0 0 n ∧ prE s n = 0 ∧ ckB o s n < 0 ∧ e = 0 ∧ p = 0)
theorem CkPost_uniq {o s : ByteArray} {e p e' p' : Int} {n n' : Nat} (h : CkPost o s e p n) (h' : CkPost o s e' p' n') : e = e' ∧ p = p' ∧ n = n' := by
  rcases h with ⟨a, b⟩ | ⟨a, b, rfl, rfl⟩ | ⟨a, b, c, rfl, rfl⟩ | ⟨a, b, c, rfl, rfl⟩ <;>
  rcases h' with ⟨a', b'⟩ | ⟨a', b', rfl, rfl⟩ | ⟨a', b', c', rfl, rfl⟩ | ⟨a', b', c', rfl, rfl⟩ <;>
  obtain ⟨h1, h2, h3⟩ := ReadPost_uniq a a' <;> subst h3 <;> first | exact ⟨h1, h2, rfl⟩ | exact ⟨rfl, rfl, rfl⟩ | omega
/-- What the document's Check answers, and what it leaves in memory. -/
def CheckAns (o s : ByteArray) (B : Nat) (e : Ending) (w' : World) : Prop :=
  ∃ (a p : Int) (n : Nat), CkPost o s a p n ∧
    ((a ≠ 0 ∧ e = .returned (.tuple #[.pointer none, .pointer none, .int .i64 a, .int .i64 p])) ∨
     (a = 0 ∧ p = 0 ∧ ∃ E, Same E (pE (cl o n) s n) ∧ At0 E w' (ckL o s n) ∧ B ≤ E.pb ∧ B ≤ E.lb ∧ e = .returned (.tuple #[.pointer (some ⟨E.pb, 0, none⟩), .pointer (some ⟨E.lb, 0, none⟩), .int .i64 0, .int .i64 0])))

/-- What is known of a text that is read. -/
structure Known (o s : ByteArray) (n : Nat) : Prop where
  A : Lat n (cl o n)
  n8 : n ≤ 8
  sz : s.size ≤ 300
  nv : prNv s n ≤ 8
  np : (prPs s n).length ≤ 4
  Q : Parts (pE (cl o n) s n) (s.size + 1)
theorem known {o s : ByteArray} {n : Nat} (h : ReadPost o 0 0 n) (k : prE s n = 0) : Known o s n := by
  obtain ⟨h1, h2⟩ : GoodOrd o n ∧ Hm.wellR (cl o n) n = true := by
    rcases h with ⟨_, h, _⟩ | ⟨_, _, _, h, _⟩ | ⟨_, _, _, _, h, _⟩ | ⟨_, a, b, _⟩
    · omega
    · omega
    · omega
    · exact ⟨a, b⟩
  obtain ⟨p1, p2, p3, p4, p5⟩ := prE_parts k
  refine ⟨cl_lat o h1.1.2.2.1 h2, h1.1.2.2.2, p1, p2, p3, p4, fun j hj => ?_⟩
  have hj' : j < (prPs s n).length := hj
  obtain ⟨m, hm⟩ := p5 ((prPs s n).getD j 0) (by simp [hj'])
  exact ⟨_, m, rfl, hm⟩
theorem Parts.same {E E' : Env} {f : Nat} (h : Same E E') (Q : Parts E' f) : Parts E f := by
  obtain ⟨⟨j, hj⟩, hp⟩ := Q
  refine ⟨⟨j, ?_⟩, fun k hk => ?_⟩
  · unfold wf0 at hj ⊢; rw [h.s, h.nv, h.n, h.np, h.main]; exact hj
  · obtain ⟨m, j, e, hm⟩ := hp k (by rw [← h.np]; exact hk)
    refine ⟨m, j, by rw [h.P]; exact e, ?_⟩
    unfold wf0 at hm ⊢; rw [h.s, h.nv, h.n, h.np]; exact hm
theorem Known.low {o s : ByteArray} {n : Nat} (h : Known o s n) : LowOk (pE (cl o n) s n) (s.size + 1) (ckL o s n).V (ckL o s n).X (ckL o s n).T :=
  lowW_ok (E := pE (cl o n) s n) h.A h.Q h.n8 h.nv h.np

theorem PI_pg {w0 w : World} {cb pb ob g cap : Nat} {rb : Nat → Nat} {R : Nat → Nat → Bool} {s : ByteArray} {i : Nat} {bad : Bool} {n : Nat} {C : List Nat} {v pv fl : Value}
    (h : PI w0 w cb pb (.pointer (some ⟨ob, 0, none⟩)) s i bad n (prNv s n) C v (prNv s n + 1) (prPs s n) pv fl) (ho : Ord w ob g cap n rb R) :
    ∃ E, Pg E w ∧ Same E (pE R s n) ∧ E.pb = pb := by
  obtain ⟨gp, cp, ep, _, rp⟩ := own_sl h.pown (fun k hk => cells_get hk)
  obtain ⟨gf, cf, ef, _, rf'⟩ := own_sl (F := fixV (bt s) n) h.fown (fun k hk => by simp [fixL, hk])
  refine ⟨{ pE R s n with pb := pb, ob := ob, g := g, cap := cap, rb := rb, gp := gp, cp := cp, gf := gf, cf := cf }, ⟨?_, ho, rf', rp⟩, ⟨rfl, rfl, rfl, rfl, rfl, rfl, rfl⟩, rfl⟩
  have := h.pr
  rw [ep, ef] at this
  exact this
theorem Ord.below {w w' : World} {o g cap n : Nat} {rb : Nat → Nat} {R : Nat → Nat → Bool} (h : Ord w o g cap n rb R) (hn : 1 ≤ n) (hb : Below w.heap.size w w') : Ord w' o g cap n rb R :=
  h.keep (hb.block _ (World.block_lt_of_cell? w _ h.cn)) (hb.block _ (World.block_lt_of_cell? w _ (h.row 0 (by omega)))) (fun i hi => hb.block _ (World.block_lt_of_cell? w _ (h.bel i 0 hi (by omega))))

end Go.Proofs.YtfcflnnleadpkaaGreat
