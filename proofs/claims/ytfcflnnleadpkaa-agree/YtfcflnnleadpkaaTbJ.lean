import Derived.Test.YtfcflnnleadpkaaTaJ
namespace Go.Proofs.Ytfcflnnleadpkaa
open Go.RowKit

/-- Bottom. -/
def botRow (R : Nat → Nat → Bool) (n a : Nat) : Bool := Hm.allB (R a) n 0
theorem bot_eq (R : Nat → Nat → Bool) (n : Nat) : bot R n = (Hm.firstB (botRow R n) n 0).toNat := rfl

set_option maxHeartbeats 1000000 in
theorem Bottom_any (w : World) (o g cap n : Nat) (rb : Nat → Nat) (R : Nat → Nat → Bool) (hn : n ≤ 8) (ho : Ord w o g cap n rb R) :
    Calls Try.prog 58 #[.pointer (some ⟨o, 0, none⟩)] w fun e w' => e = .returned (.int .i64 (bot R n : Int)) ∧ w' = w := by
  have hc := ho.cn
  have hb := ho.cb
  have HF := hide (bot_eq R n)
  go_enter Try.func58, Try.ntmps58
  go_wp2_with fail
  go_loop [3] (fun d => ∃ a : Nat, a ≤ n ∧ d = .int .i64 (a : Int) ∧ Hm.firstB (botRow R n) n 0 = Hm.firstB (botRow R n) (n - a) a) (fun d => n - (intOf d).toNat)
  case atStart => exact ⟨0, Nat.zero_le _, rfl, rfl⟩
  case round =>
    obtain ⟨a, ha, rfl, hq⟩ := hrel
    have HQ := hide hq
    clear hq
    by_cases hlt : a < n
    · have HY := hide (fun h => Hm.firstB_yes (p := botRow R n) hlt h)
      have HN := hide (fun h => Hm.firstB_no (p := botRow R n) hlt h)
      have r1 := ho.row a hlt
      go_wp2_with fail
      go_loop [4, 5] (fun x d => ∃ m : Nat, m ≤ n ∧ d = .int .i64 (m : Int) ∧ ∃ y : Bool, x = .bool y ∧ botRow R n a = (y && Hm.allB (R a) (n - m) m)) (fun _ d => n - (intOf d).toNat)
      case atStart => exact ⟨0, Nat.zero_le _, rfl, true, rfl, by simp [botRow]⟩
      case round =>
        obtain ⟨m, hm, rfl, y, rfl, hq⟩ := hrel
        have HP := hide hq
        clear hq
        by_cases hlm : m < n
        · have b1 := ho.bel a m hlt hlm
          cases y
          · have HS := hide (show botRow R n a = (false && Hm.allB (R a) (n - (m + 1)) (m + 1)) by rw [unhide HP]; rfl)
            go_wp2_with fail
            go_round
            case rel => exact ⟨m + 1, by omega, by go_num, false, rfl, unhide HS⟩
            case measure => simp [intOf]; omega
          · have HS := hide (show botRow R n a = (R a m && Hm.allB (R a) (n - (m + 1)) (m + 1)) by
              rw [unhide HP]
              cases e : R a m
              · simp [Hm.allB_no hlm e]
              · simp [Hm.allB_yes hlm e])
            go_wp2_with fail
            go_round
            case rel => exact ⟨m + 1, by omega, by go_num, R a m, rfl, unhide HS⟩
            case measure => simp [intOf]; omega
        · have HS := hide (show botRow R n a = y by rw [unhide HP, Hm.allB_end (by omega)]; simp)
          cases y
          · go_wp2_with fail
            go_round
            case rel => exact ⟨a + 1, by omega, by go_num, by rw [unhide HQ, unhide HN (unhide HS)]⟩
            case measure => simp [intOf]; omega
          · go_wp2_with fail
            go_ret
            exact ⟨by rw [unhide HF, unhide HQ, unhide HY (unhide HS)]; rfl, rfl⟩
    · have HS := hide (Hm.firstB_end (p := botRow R n) (n := n) (k := a) (by omega))
      go_wp2_with fail
      go_ret
      exact ⟨by rw [unhide HF, unhide HQ, unhide HS]; rfl, rfl⟩

/-- A slice of m numbers at the head of the block g; where there are none, any slice: nil, or (of the capacity cap - 1) at the head of g. -/
def sl (m g cap : Nat) : Value := if m = 0 then (if cap = 0 then .slice none 0 0 else .slice (some ⟨g, 0, none⟩) 0 (cap - 1)) else .slice (some ⟨g, 0, none⟩) m cap
theorem sl_form (m g cap : Nat) : ∃ a c, sl m g cap = .slice a m c := by
  unfold sl
  split
  · rename_i h
    subst h
    split
    · exact ⟨_, _, rfl⟩
    · exact ⟨_, _, rfl⟩
  · exact ⟨_, _, rfl⟩
theorem sl_pos {m g cap : Nat} (h : 0 < m) : sl m g cap = .slice (some ⟨g, 0, none⟩) m cap := by unfold sl; rw [if_neg (by omega)]
/-- The first m cells of the block g. -/
def Rw (w : World) (g m : Nat) (F : Nat → Int) : Prop := 0 < m → ∃ cur, w.heap[g]? = some (.cells cur 3 (0, 0)) ∧ ∀ k, k < m → cur[k]? = some (.int .i64 (F k))
theorem Rw.cell {w : World} {g m : Nat} {F : Nat → Int} (h : Rw w g m F) {k : Nat} (hk : k < m) : w.cell? ⟨g, k, none⟩ = some (.int .i64 (F k)) := by
  obtain ⟨cur, h1, h2⟩ := h (by omega)
  rw [cell_of_row w g k cur _ _ h1]; exact h2 k hk
theorem Rw.fz {w : World} {g m : Nat} {F : Nat → Int} (h : Rw w g m F) (hm : 0 < m) (k : Nat) : w.frozen? ⟨g, k, none⟩ = false := by
  obtain ⟨cur, h1, _⟩ := h hm
  exact frozen_of_row w g k cur _ h1
theorem Rw.of {w w' : World} {g m : Nat} {F : Nat → Int} (h : Rw w g m F) (e : 0 < m → w'.heap[g]? = w.heap[g]?) : Rw w' g m F := by
  intro hm
  obtain ⟨cur, h1, h2⟩ := h hm
  exact ⟨cur, (e hm).trans h1, h2⟩
theorem Rw.set {w : World} {g m : Nat} {F : Nat → Int} (h : Rw w g m F) (k : Nat) (x : Int) : Rw (w.setCell ⟨g, k, none⟩ (.int .i64 x)) g m (fun j => if j = k then x else F j) := by
  intro hm
  obtain ⟨cur, h1, h2⟩ := h hm
  refine ⟨cur.setIfInBounds k (.int .i64 x), ?_, fun j hj => ?_⟩
  · rw [setCell_eq_setRow w g k cur _ _ _ h1]; exact setRow_heap w g _ _ _ _ h1
  · rw [Array.getElem?_setIfInBounds]
    by_cases e : k = j
    · subst e
      have := h2 k hj
      have hlt : k < cur.size := by
        rcases Nat.lt_or_ge k cur.size with hh | hh
        · exact hh
        · rw [Array.getElem?_eq_none hh] at this; cases this
      simp [hlt]
    · rw [if_neg e, h2 j hj]
      simp [Ne.symm e]

/-- Where a Walk and all that it looks at lie. -/
structure Env where
  wb : Nat
  pb : Nat
  lb : Nat
  ob : Nat
  g : Nat
  cap : Nat
  n : Nat
  nv : Nat
  np : Nat
  main : Nat
  gv : Nat
  cv : Nat
  gx : Nat
  cx : Nat
  gt : Nat
  ct : Nat
  gf : Nat
  cf : Nat
  gp : Nat
  cp : Nat
  rb : Nat → Nat
  R : Nat → Nat → Bool
  s : ByteArray
  low : Bool
  P : Nat → Int
  B : Nat

def wkC (E : Env) (ra mute : Bool) (bad : Int) : Array Value := #[.pointer (some ⟨E.pb, 0, none⟩), .pointer (some ⟨E.lb, 0, none⟩), .bool E.low, .bool ra, .bool mute, .int .i64 bad]
def lv (F : Nat → Nat) : Nat → Int := fun k => (F k : Int)
/-- The Walk in memory, its labelling and what it looks at. -/
structure At (E : Env) (w : World) (mute : Bool) (st : WS) : Prop where
  wk : w.heap[E.wb]? = some (.cells (wkC E st.ra mute st.bad) 97 (0, 0))
  pg : w.heap[E.pb]? = some (.cells (pgC (.pointer (some ⟨E.ob, 0, none⟩)) E.s E.main (sl E.np E.gp E.cp) (sl E.nv E.gf E.cf)) 58 (0, 0))
  lb : w.heap[E.lb]? = some (.cells #[sl E.nv E.gv E.cv, sl E.np E.gx E.cx, sl E.np E.gt E.ct] 100 (0, 0))
  ord : Ord w E.ob E.g E.cap E.n E.rb E.R
  fx : Rw w E.gf E.nv (fixV (bt E.s) E.n)
  ps : Rw w E.gp E.np E.P
  rv : Rw w E.gv E.nv (lv st.V)
  rx : Rw w E.gx E.np (lv st.X)
  rt : Rw w E.gt E.np (lv st.T)

end Go.Proofs.Ytfcflnnleadpkaa

namespace Go.Proofs.Ytfcflnnleadpkaa
open Go.RowKit

/-- What lies apart. -/
structure Sep (E : Env) : Prop where
  o1 : E.ob < E.B
  o2 : E.g < E.B
  o3 : ∀ i, i < E.n → E.rb i < E.B
  bw : E.B ≤ E.wb
  bv : 0 < E.nv → E.B ≤ E.gv
  bx : 0 < E.np → E.B ≤ E.gx
  bt : 0 < E.np → E.B ≤ E.gt
  vx : 0 < E.nv → 0 < E.np → E.gv ≠ E.gx
  vt : 0 < E.nv → 0 < E.np → E.gv ≠ E.gt
  vf : 0 < E.nv → E.gv ≠ E.gf
  vp : 0 < E.nv → 0 < E.np → E.gv ≠ E.gp
  xt : 0 < E.np → E.gx ≠ E.gt
  xf : 0 < E.nv → 0 < E.np → E.gx ≠ E.gf
  xp : 0 < E.np → E.gx ≠ E.gp
  tf : 0 < E.nv → 0 < E.np → E.gt ≠ E.gf
  tp : 0 < E.np → E.gt ≠ E.gp
/-- What a look leaves as it was. -/
structure Fr (E : Env) (w w' : World) : Prop where
  os : w'.os = w.os
  tape : w'.tape = w.tape
  output : w'.output = w.output
  size : w'.heap.size = w.heap.size
  block : ∀ k, k ≠ E.wb → (0 < E.nv → k ≠ E.gv) → (0 < E.np → k ≠ E.gx ∧ k ≠ E.gt) → w'.heap[k]? = w.heap[k]?
variable {E : Env} {w w' w'' : World} {mute : Bool} {st : WS}
theorem Fr.refl (E : Env) (w : World) : Fr E w w := ⟨rfl, rfl, rfl, rfl, fun _ _ _ _ => rfl⟩
theorem Fr.trans (h : Fr E w w') (k : Fr E w' w'') : Fr E w w'' :=
  ⟨k.os.trans h.os, k.tape.trans h.tape, k.output.trans h.output, k.size.trans h.size, fun j h1 h2 h3 => (k.block j h1 h2 h3).trans (h.block j h1 h2 h3)⟩
theorem Fr.drewN (h : Fr E w w') (q : Nat) : Fr E w (w'.drewN q) := ⟨h.os, h.tape, h.output, h.size, h.block⟩
theorem At.drewN (h : At E w mute st) (q : Nat) : At E (w.drewN q) mute st := ⟨h.wk, h.pg, h.lb, ⟨h.ord.cn, h.ord.cb, h.ord.row, h.ord.bel⟩, h.fx, h.ps, h.rv, h.rx, h.rt⟩

theorem At.cP (h : At E w mute st) : w.cell? ⟨E.wb, 0, none⟩ = some (.pointer (some ⟨E.pb, 0, none⟩)) := by rw [cell_of_row w _ 0 _ _ _ h.wk]; rfl
theorem At.cL (h : At E w mute st) : w.cell? ⟨E.wb, 1, none⟩ = some (.pointer (some ⟨E.lb, 0, none⟩)) := by rw [cell_of_row w _ 1 _ _ _ h.wk]; rfl
theorem At.cLow (h : At E w mute st) : w.cell? ⟨E.wb, 2, none⟩ = some (.bool E.low) := by rw [cell_of_row w _ 2 _ _ _ h.wk]; rfl
theorem At.cRa (h : At E w mute st) : w.cell? ⟨E.wb, 3, none⟩ = some (.bool st.ra) := by rw [cell_of_row w _ 3 _ _ _ h.wk]; rfl
theorem At.cMu (h : At E w mute st) : w.cell? ⟨E.wb, 4, none⟩ = some (.bool mute) := by rw [cell_of_row w _ 4 _ _ _ h.wk]; rfl
theorem At.cBad (h : At E w mute st) : w.cell? ⟨E.wb, 5, none⟩ = some (.int .i64 st.bad) := by rw [cell_of_row w _ 5 _ _ _ h.wk]; rfl
theorem At.fz (h : At E w mute st) (j : Nat) : w.frozen? ⟨E.wb, j, none⟩ = false := frozen_of_row w _ j _ _ h.wk
theorem At.cO (h : At E w mute st) : w.cell? ⟨E.pb, 0, none⟩ = some (.pointer (some ⟨E.ob, 0, none⟩)) := by rw [cell_of_row w _ 0 _ _ _ h.pg]; rfl
theorem At.cS (h : At E w mute st) : w.cell? ⟨E.pb, 1, none⟩ = some (.string E.s) := by rw [cell_of_row w _ 1 _ _ _ h.pg]; rfl
theorem At.cF (h : At E w mute st) : w.cell? ⟨E.pb, 4, none⟩ = some (sl E.nv E.gf E.cf) := by rw [cell_of_row w _ 4 _ _ _ h.pg]; rfl
theorem At.cV (h : At E w mute st) : w.cell? ⟨E.lb, 0, none⟩ = some (sl E.nv E.gv E.cv) := by rw [cell_of_row w _ 0 _ _ _ h.lb]; rfl
theorem At.cX (h : At E w mute st) : w.cell? ⟨E.lb, 1, none⟩ = some (sl E.np E.gx E.cx) := by rw [cell_of_row w _ 1 _ _ _ h.lb]; rfl
theorem At.cT (h : At E w mute st) : w.cell? ⟨E.lb, 2, none⟩ = some (sl E.np E.gt E.ct) := by rw [cell_of_row w _ 2 _ _ _ h.lb]; rfl

/-- Two blocks of different types are two. -/
theorem ne_of_types {w : World} {a b : Nat} {x y : Array Value} {s t : TypeId} {f g : Nat × Nat} (h1 : w.heap[a]? = some (.cells x s f)) (h2 : w.heap[b]? = some (.cells y t g)) (h : s ≠ t) : a ≠ b := by
  intro e; subst e; rw [h1] at h2; simp at h2; exact h h2.2.1
theorem Ord.keep {o g cap n : Nat} {rb : Nat → Nat} {R : Nat → Nat → Bool} (h : Ord w o g cap n rb R) (h1 : w'.heap[o]? = w.heap[o]?) (h2 : w'.heap[g]? = w.heap[g]?) (h3 : ∀ i, i < n → w'.heap[rb i]? = w.heap[rb i]?) : Ord w' o g cap n rb R :=
  ⟨(World.cell?_of_block (w := w) (a := ⟨o, 0, none⟩) h1).trans h.cn, (World.cell?_of_block (w := w) (a := ⟨o, 1, none⟩) h1).trans h.cb, fun i hi => (World.cell?_of_block (w := w) (a := ⟨g, i, none⟩) h2).trans (h.row i hi),
    fun i j hi hj => (World.cell?_of_block (w := w) (a := ⟨rb i, j, none⟩) (h3 i hi)).trans (h.bel i j hi hj)⟩

/-- The Walk itself turned. -/
theorem At.turn (S : Sep E) (h : At E w mute st) (j : Nat) (x : Value) (ra' mute' : Bool) (bad' : Int) (hx : (wkC E st.ra mute st.bad).setIfInBounds j x = wkC E ra' mute' bad') :
    At E (w.setCell ⟨E.wb, j, none⟩ x) mute' { st with ra := ra', bad := bad' } ∧ Fr E w (w.setCell ⟨E.wb, j, none⟩ x) := by
  have e : w.setCell ⟨E.wb, j, none⟩ x = w.setRow E.wb (wkC E ra' mute' bad') := by rw [setCell_eq_setRow w _ j _ _ _ _ h.wk, hx]
  rw [e]
  have ho : ∀ k, k ≠ E.wb → (w.setRow E.wb (wkC E ra' mute' bad')).heap[k]? = w.heap[k]? := fun k hk => setRow_other w _ k _ hk
  have hrow : ∀ {gg m : Nat} {F : Nat → Int}, Rw w gg m F → Rw (w.setRow E.wb (wkC E ra' mute' bad')) gg m F := fun {gg m F} hr => hr.of (fun hm => by
    obtain ⟨cur, h1, _⟩ := hr hm
    exact ho gg (ne_of_types h1 h.wk (by decide)))
  refine ⟨⟨setRow_heap w _ _ _ _ _ h.wk, (ho _ (ne_of_types h.pg h.wk (by decide))).trans h.pg, (ho _ (ne_of_types h.lb h.wk (by decide))).trans h.lb, ?_, hrow h.fx, hrow h.ps, hrow h.rv, hrow h.rx, hrow h.rt⟩, ⟨rfl, rfl, rfl, by simp, fun k h1 _ _ => ho k h1⟩⟩
  exact h.ord.keep (ho _ (by have := S.o1; have := S.bw; omega)) (ho _ (by have := S.o2; have := S.bw; omega)) (fun i hi => ho _ (by have := S.o3 i hi; have := S.bw; omega))
theorem lv_set (F : Nat → Nat) (k x : Nat) : (fun j => if j = k then (x : Int) else lv F j) = lv (setF F k x) := by
  funext j; unfold lv setF; split <;> rfl
/-- A variable's level turned. -/
theorem At.setV (S : Sep E) (h : At E w mute st) {k : Nat} (hk : k < E.nv) (x : Nat) :
    At E (w.setCell ⟨E.gv, k, none⟩ (.int .i64 (x : Int))) mute { st with V := setF st.V k x } ∧ Fr E w (w.setCell ⟨E.gv, k, none⟩ (.int .i64 (x : Int))) := by
  have hnv : 0 < E.nv := by omega
  obtain ⟨cur, hc, _⟩ := h.rv hnv
  have ho : ∀ j, j ≠ E.gv → (w.setCell ⟨E.gv, k, none⟩ (.int .i64 (x : Int))).heap[j]? = w.heap[j]? := fun j hj => Below.heap_setCell w _ _ j hj
  refine ⟨⟨(ho _ (ne_of_types h.wk hc (by decide))).trans h.wk, (ho _ (ne_of_types h.pg hc (by decide))).trans h.pg, (ho _ (ne_of_types h.lb hc (by decide))).trans h.lb, ?_,
    h.fx.of (fun _ => ho _ (Ne.symm (S.vf hnv))), h.ps.of (fun hp => ho _ (Ne.symm (S.vp hnv hp))), ?_, h.rx.of (fun hp => ho _ (Ne.symm (S.vx hnv hp))), h.rt.of (fun hp => ho _ (Ne.symm (S.vt hnv hp)))⟩, ?_⟩
  · exact h.ord.keep (ho _ (by have := S.o1; have := S.bv hnv; omega)) (ho _ (by have := S.o2; have := S.bv hnv; omega)) (fun i hi => ho _ (by have := S.o3 i hi; have := S.bv hnv; omega))
  · have h2 := h.rv.set k (x : Int)
    rw [lv_set] at h2
    exact h2
  · exact ⟨rfl, rfl, rfl, by simp [World.setCell], fun j _ h2 _ => ho j (h2 hnv)⟩
/-- A context turned. -/
theorem At.setX (S : Sep E) (h : At E w mute st) {k : Nat} (hk : k < E.np) (x : Nat) :
    At E (w.setCell ⟨E.gx, k, none⟩ (.int .i64 (x : Int))) mute { st with X := setF st.X k x } ∧ Fr E w (w.setCell ⟨E.gx, k, none⟩ (.int .i64 (x : Int))) := by
  have hnp : 0 < E.np := by omega
  obtain ⟨cur, hc, _⟩ := h.rx hnp
  have ho : ∀ j, j ≠ E.gx → (w.setCell ⟨E.gx, k, none⟩ (.int .i64 (x : Int))).heap[j]? = w.heap[j]? := fun j hj => Below.heap_setCell w _ _ j hj
  refine ⟨⟨(ho _ (ne_of_types h.wk hc (by decide))).trans h.wk, (ho _ (ne_of_types h.pg hc (by decide))).trans h.pg, (ho _ (ne_of_types h.lb hc (by decide))).trans h.lb, ?_,
    h.fx.of (fun hv => ho _ (Ne.symm (S.xf hv hnp))), h.ps.of (fun _ => ho _ (Ne.symm (S.xp hnp))), h.rv.of (fun hv => ho _ (S.vx hv hnp)), ?_, h.rt.of (fun _ => ho _ (Ne.symm (S.xt hnp)))⟩, ?_⟩
  · exact h.ord.keep (ho _ (by have := S.o1; have := S.bx hnp; omega)) (ho _ (by have := S.o2; have := S.bx hnp; omega)) (fun i hi => ho _ (by have := S.o3 i hi; have := S.bx hnp; omega))
  · have h2 := h.rx.set k (x : Int)
    rw [lv_set] at h2
    exact h2
  · exact ⟨rfl, rfl, rfl, by simp [World.setCell], fun j _ _ h3 => ho j (h3 hnp).1⟩

set_option maxHeartbeats 1000000 in
theorem wjoin_any (L : Lattice E.n E.R) (hn : E.n ≤ 8) (h : At E w mute st) {a b : Nat} (ha : a < E.n) (hb : b < E.n) :
    Calls Try.prog 60 #[.pointer (some ⟨E.wb, 0, none⟩), .int .i64 (a : Int), .int .i64 (b : Int)] w fun e w' => e = .returned (.int .i64 (jn E.R E.n a b : Int)) ∧ w' = w := by
  have k0 := h.cP
  have k1 := h.cO
  have HO := hide h.ord
  have HJ := hide (L.jn_lt ha hb)
  clear h
  go_enter Try.func60, Try.ntmps60
  go_wp2_with fail
  refine (Join_any _ _ _ _ _ _ _ _ _ hn (unhide HO) ha hb).mono ?_
  rintro e w' ⟨rfl, rfl⟩
  rw [(unhide HJ).2.1]
  go_wp2_with fail
  go_ret
  exact ⟨rfl, rfl⟩

end Go.Proofs.Ytfcflnnleadpkaa

namespace Go.Proofs.Ytfcflnnleadpkaa
open Go.RowKit
variable {E : Env} {w w' w'' : World} {mute : Bool} {st : WS}

theorem demW_mute {R : Nat → Nat → Bool} {a b i : Nat} : demW R true st a b i = st := by unfold demW; rw [if_neg (by simp)]
theorem demW_below {R : Nat → Nat → Bool} {a b i : Nat} (h : R a b = true) : demW R mute st a b i = st := by unfold demW; rw [if_neg (by simp [h])]
theorem demW_late {R : Nat → Nat → Bool} {a b i : Nat} (h : ¬ st.bad < 0) (h2 : ¬ (i : Int) < st.bad) : demW R mute st a b i = st := by unfold demW; rw [if_neg (by omega)]
theorem demW_set {R : Nat → Nat → Bool} {a b i : Nat} (h : R a b = false) (h2 : st.bad < 0 ∨ (i : Int) < st.bad) : demW R false st a b i = { st with bad := (i : Int) } := by unfold demW; rw [if_pos ⟨rfl, h, h2⟩]
theorem wk_same : ({ st with ra := st.ra, bad := st.bad } : WS) = st := rfl

set_option maxHeartbeats 1000000 in
theorem demand_any (S : Sep E) (h : At E w mute st) {a b i : Nat} (ha : a < E.n) (hb : b < E.n) :
    Calls Try.prog 81 #[.pointer (some ⟨E.wb, 0, none⟩), .int .i64 (a : Int), .int .i64 (b : Int), .int .i64 (i : Int)] w fun e w' => e = .returned (.tuple #[]) ∧ At E w' mute (demW E.R mute st a b i) ∧ Fr E w w' := by
  have k0 := h.cP
  have k1 := h.cO
  have k4 := h.cMu
  have k5 := h.cBad
  have kz := h.fz 5
  have o1 := h.ord.cb
  have o2 := h.ord.row a ha
  have o3 := h.ord.bel a b ha hb
  have HH := hide h
  have HN := hide (show At E w mute st ∧ Fr E w w from ⟨h, Fr.refl _ _⟩)
  clear h
  cases mute
  · cases hr : E.R a b
    · rw [hr] at o3
      by_cases hb0 : st.bad < 0
      · have HE := hide (demW_set (st := st) (i := i) hr (Or.inl hb0))
        have q1 : decide (st.bad < 0) = true := by simpa using hb0
        have HT := hide ((unhide HH).turn S 5 (.int .i64 (i : Int)) st.ra false (i : Int) rfl)
        clear hb0
        go_enter Try.func81, Try.ntmps81
        go_wp2_with fail
        go_end0
        exact ⟨rfl, by rw [unhide HE]; exact (unhide HT).1, (unhide HT).2⟩
      · have q1 : decide (st.bad < 0) = false := by simpa using hb0
        by_cases hb1 : (i : Int) < st.bad
        · have HE := hide (demW_set (st := st) (i := i) hr (Or.inr hb1))
          have q2 : decide ((i : Int) < st.bad) = true := by simpa using hb1
          have HT := hide ((unhide HH).turn S 5 (.int .i64 (i : Int)) st.ra false (i : Int) rfl)
          clear hb0 hb1
          go_enter Try.func81, Try.ntmps81
          go_wp2_with fail
          go_end0
          exact ⟨rfl, by rw [unhide HE]; exact (unhide HT).1, (unhide HT).2⟩
        · have HE := hide (demW_late (R := E.R) (mute := false) (a := a) (b := b) hb0 hb1)
          have q2 : decide ((i : Int) < st.bad) = false := by simpa using hb1
          clear hb0 hb1
          go_enter Try.func81, Try.ntmps81
          go_wp2_with fail
          go_end0
          exact ⟨rfl, by rw [unhide HE]; exact (unhide HN).1, (unhide HN).2⟩
    · rw [hr] at o3
      have HE := hide (demW_below (st := st) (mute := false) (i := i) hr)
      go_enter Try.func81, Try.ntmps81
      go_wp2_with fail
      go_end0
      exact ⟨rfl, by rw [unhide HE]; exact (unhide HN).1, (unhide HN).2⟩
  · have HE := hide (demW_mute (st := st) (R := E.R) (a := a) (b := b) (i := i))
    go_enter Try.func81, Try.ntmps81
    go_wp2_with fail
    go_end0
    exact ⟨rfl, by rw [unhide HE]; exact (unhide HN).1, (unhide HN).2⟩

theorem atLW_mute {R : Nat → Nat → Bool} {n : Nat} {fx : Nat → Int} {low : Bool} {v a i : Nat} : atLW R n fx low true st v a i = st := by unfold atLW; rw [if_pos rfl]
theorem atLW_dem {R : Nat → Nat → Bool} {n : Nat} {fx : Nat → Int} {low : Bool} {v a i : Nat} (h : ¬ (low = true ∧ fx v < 0)) : atLW R n fx low false st v a i = demW R false st a (st.V v) i := by
  unfold atLW; rw [if_neg (by simp), if_neg h]
theorem atLW_same {R : Nat → Nat → Bool} {n : Nat} {fx : Nat → Int} {low : Bool} {v a i : Nat} (h : low = true ∧ fx v < 0) (h2 : jn R n (st.V v) a = st.V v) : atLW R n fx low false st v a i = st := by
  unfold atLW; rw [if_neg (by simp), if_pos h, if_pos h2]
theorem atLW_up {R : Nat → Nat → Bool} {n : Nat} {fx : Nat → Int} {low : Bool} {v a i : Nat} (h : low = true ∧ fx v < 0) (h2 : ¬ jn R n (st.V v) a = st.V v) : atLW R n fx low false st v a i = { st with V := setF st.V v (jn R n (st.V v) a), ra := true } := by
  unfold atLW; rw [if_neg (by simp), if_pos h, if_neg h2]

set_option maxHeartbeats 1000000 in
theorem atLeast_any (S : Sep E) (L : Lattice E.n E.R) (hn : E.n ≤ 8) (h : At E w mute st) (hr : InR E.n E.nv E.np st) {v a i : Nat} (hv : v < E.nv) (hv8 : E.nv ≤ 8) (ha : a < E.n) :
    Calls Try.prog 79 #[.pointer (some ⟨E.wb, 0, none⟩), .int .i64 (v : Int), .int .i64 (a : Int), .int .i64 (i : Int)] w fun e w' => e = .returned (.tuple #[]) ∧ At E w' mute (atLW E.R E.n (fixV (bt E.s) E.n) E.low mute st v a i) ∧ Fr E w w' := by
  have k0 := h.cP
  have k1 := h.cL
  have k2 := h.cLow
  have k4 := h.cMu
  have kf := h.cF
  have kv := h.cV
  rw [sl_pos (by omega)] at kf kv
  have f1 := h.fx.cell hv
  have v1 : w.cell? ⟨E.gv, v, none⟩ = some (.int .i64 (st.V v : Int)) := h.rv.cell hv
  have vz := h.rv.fz (by omega) v
  have k3 := h.cRa
  have kz := h.fz 3
  have hv' : (v : Int) < (E.nv : Int) := by omega
  have HVn := hide (hr.V v hv)
  have HH := hide h
  have HN := hide (show At E w mute st ∧ Fr E w w from ⟨h, Fr.refl _ _⟩)
  clear h hr
  cases mute
  · by_cases hlow : E.low = true ∧ fixV (bt E.s) E.n v < 0
    · have q1 : decide (fixV (bt E.s) E.n v < 0) = true := by simpa using hlow.2
      have HLO := hide hlow
      rw [hlow.1] at k2
      clear hlow
      by_cases hj : jn E.R E.n (st.V v) a = st.V v
      · have HE := hide (atLW_same (st := st) (i := i) (unhide HLO) hj)
        have q2 : (((jn E.R E.n (st.V v) a : Nat) : Int) != ((st.V v : Nat) : Int)) = false := by simp [hj]
        clear hj
        go_enter Try.func79, Try.ntmps79
        go_wp2_with fail
        refine (wjoin_any L hn (unhide HH) (unhide HVn) ha).mono ?_
        rintro e w' ⟨rfl, rfl⟩
        go_wp2_with fail
        refine bodyPost_ret (v := .tuple #[]) (results_none Try.results79 _ _ _) rfl ⟨rfl, ?_⟩
        rw [unhide HE]; exact unhide HN
      · have HE := hide (atLW_up (st := st) (i := i) (unhide HLO) hj)
        have q2 : (((jn E.R E.n (st.V v) a : Nat) : Int) != ((st.V v : Nat) : Int)) = true := by simp; omega
        have HT := hide ((unhide HH).setV S hv (jn E.R E.n (st.V v) a))
        clear hj
        go_enter Try.func79, Try.ntmps79
        go_wp2_with fail
        refine (wjoin_any L hn (unhide HH) (unhide HVn) ha).mono ?_
        rintro e w' ⟨rfl, rfl⟩
        generalize jn E.R E.n (st.V v) a = x at *
        have r3 := (unhide HT).1.cRa
        have rz := (unhide HT).1.fz 3
        have HT2 := hide ((unhide HT).1.turn S 3 (.bool true) true false st.bad rfl)
        go_wp2_with fail
        refine bodyPost_ret (v := .tuple #[]) (results_none Try.results79 _ _ _) rfl ⟨rfl, ?_⟩
        rw [unhide HE]; exact ⟨(unhide HT2).1, (unhide HT).2.trans (unhide HT2).2⟩
    · have HE := hide (atLW_dem (st := st) (R := E.R) (n := E.n) (a := a) (i := i) hlow)
      rcases Bool.eq_false_or_eq_true E.low with hl | hl
      rotate_left
      · rw [hl] at k2
        clear hlow
        go_enter Try.func79, Try.ntmps79
        go_wp2_with fail
        refine (demand_any S (unhide HH) ha (unhide HVn)).mono ?_
        rintro e w1 ⟨rfl, hd⟩
        have HD := hide hd
        clear hd
        go_wp2_with fail
        go_end0
        exact ⟨rfl, by rw [unhide HE]; exact unhide HD⟩
      · rw [hl] at k2
        have q1 : decide (fixV (bt E.s) E.n v < 0) = false := by
          simp
          rcases Int.lt_or_le (fixV (bt E.s) E.n v) 0 with h | h
          · exact absurd ⟨hl, h⟩ hlow
          · exact h
        clear hlow
        go_enter Try.func79, Try.ntmps79
        go_wp2_with fail
        refine (demand_any S (unhide HH) ha (unhide HVn)).mono ?_
        rintro e w1 ⟨rfl, hd⟩
        have HD := hide hd
        clear hd
        go_wp2_with fail
        go_end0
        exact ⟨rfl, by rw [unhide HE]; exact unhide HD⟩
  · have HE := hide (atLW_mute (st := st) (R := E.R) (n := E.n) (fx := fixV (bt E.s) E.n) (low := E.low) (v := v) (a := a) (i := i))
    go_enter Try.func79, Try.ntmps79
    go_wp2_with fail
    refine bodyPost_ret (v := .tuple #[]) (results_none Try.results79 _ _ _) rfl ⟨rfl, ?_⟩
    rw [unhide HE]; exact unhide HN

theorem callW_dem {R : Nat → Nat → Bool} {n : Nat} {low : Bool} {k p i : Nat} (h : ¬ (low = true ∧ mute = false)) : callW R n low mute st k p i = demW R mute st p (st.X k) i := by
  unfold callW; rw [if_neg h]
theorem callW_same {R : Nat → Nat → Bool} {n : Nat} {k p i : Nat} (h2 : jn R n (st.X k) p = st.X k) : callW R n true false st k p i = st := by
  unfold callW; rw [if_pos ⟨rfl, rfl⟩, if_pos h2]
theorem callW_up {R : Nat → Nat → Bool} {n : Nat} {k p i : Nat} (h2 : ¬ jn R n (st.X k) p = st.X k) : callW R n true false st k p i = { st with X := setF st.X k (jn R n (st.X k) p), ra := true } := by
  unfold callW; rw [if_pos ⟨rfl, rfl⟩, if_neg h2]
theorem callW_T {R : Nat → Nat → Bool} {n : Nat} {low : Bool} {k p i : Nat} : (callW R n low mute st k p i).T = st.T := by
  unfold callW demW
  repeat' split
  all_goals rfl

set_option maxHeartbeats 1000000 in
theorem call_any (S : Sep E) (L : Lattice E.n E.R) (hn : E.n ≤ 8) (h : At E w mute st) (hr : InR E.n E.nv E.np st) {k p i : Nat} (hk : k < E.np) (hp4 : E.np ≤ 4) (hp : p < E.n) :
    Calls Try.prog 82 #[.pointer (some ⟨E.wb, 0, none⟩), .int .i64 (k : Int), .int .i64 (p : Int), .int .i64 (i : Int)] w fun e w' => e = .returned (.int .i64 (jn E.R E.n p (st.T k) : Int)) ∧ At E w' mute (callW E.R E.n E.low mute st k p i) ∧ Fr E w w' := by
  have k1 := h.cL
  have k2 := h.cLow
  have k4 := h.cMu
  have kx := h.cX
  have kt := h.cT
  rw [sl_pos (by omega)] at kx kt
  have x1 : w.cell? ⟨E.gx, k, none⟩ = some (.int .i64 (st.X k : Int)) := h.rx.cell hk
  have xz := h.rx.fz (by omega) k
  have t1 : w.cell? ⟨E.gt, k, none⟩ = some (.int .i64 (st.T k : Int)) := h.rt.cell hk
  have k3 := h.cRa
  have kz := h.fz 3
  have hk' : (k : Int) < (E.np : Int) := by omega
  have HXn := hide (hr.X k hk)
  have HTn := hide (hr.T k hk)
  have HH := hide h
  have HN := hide (show At E w mute st ∧ Fr E w w from ⟨h, Fr.refl _ _⟩)
  have HTT := hide (callW_T (mute := mute) (st := st) (R := E.R) (n := E.n) (low := E.low) (k := k) (p := p) (i := i))
  clear h hr
  by_cases hlow : E.low = true ∧ mute = false
  · obtain ⟨hl, rfl⟩ := hlow
    rw [hl] at k2
    by_cases hj : jn E.R E.n (st.X k) p = st.X k
    · have HE := hide (show callW E.R E.n E.low false st k p i = st by rw [hl]; exact callW_same hj)
      have q2 : (((jn E.R E.n (st.X k) p : Nat) : Int) != ((st.X k : Nat) : Int)) = false := by simp [hj]
      clear hj
      go_enter Try.func82, Try.ntmps82
      go_wp2_with fail
      refine (wjoin_any L hn (unhide HH) (unhide HXn) hp).mono ?_
      rintro e w' ⟨rfl, rfl⟩
      go_wp2_with fail
      refine (wjoin_any L hn (unhide HH) hp (unhide HTn)).mono ?_
      rintro e w' ⟨rfl, rfl⟩
      go_wp2_with fail
      go_ret
      exact ⟨rfl, by rw [unhide HE]; exact unhide HN⟩
    · have HE := hide (show callW E.R E.n E.low false st k p i = { st with X := setF st.X k (jn E.R E.n (st.X k) p), ra := true } by rw [hl]; exact callW_up hj)
      have q2 : (((jn E.R E.n (st.X k) p : Nat) : Int) != ((st.X k : Nat) : Int)) = true := by simp; omega
      have HT := hide ((unhide HH).setX S hk (jn E.R E.n (st.X k) p))
      clear hj
      go_enter Try.func82, Try.ntmps82
      go_wp2_with fail
      refine (wjoin_any L hn (unhide HH) (unhide HXn) hp).mono ?_
      rintro e w' ⟨rfl, rfl⟩
      generalize jn E.R E.n (st.X k) p = x at *
      have r3 := (unhide HT).1.cRa
      have rz := (unhide HT).1.fz 3
      have HT2 := hide ((unhide HT).1.turn S 3 (.bool true) true false st.bad rfl)
      have r1 := (unhide HT2).1.cL
      have rt := (unhide HT2).1.cT
      rw [sl_pos (by omega)] at rt
      have rt1 : ((w'.setCell ⟨E.gx, k, none⟩ (.int .i64 (x : Int))).setCell ⟨E.wb, 3, none⟩ (.bool true)).cell? ⟨E.gt, k, none⟩ = some (.int .i64 (st.T k : Int)) := (unhide HT2).1.rt.cell hk
      go_wp2_with fail
      refine (wjoin_any L hn (unhide HT2).1 hp (unhide HTn)).mono ?_
      rintro e w3 ⟨rfl, rfl⟩
      go_wp2_with fail
      go_ret
      exact ⟨rfl, by rw [unhide HE]; exact ⟨(unhide HT2).1, (unhide HT).2.trans (unhide HT2).2⟩⟩
  · have HE := hide (callW_dem (st := st) (R := E.R) (n := E.n) (k := k) (p := p) (i := i) hlow)
    have HDT : Hid ((demW E.R mute st p (st.X k) i).T = st.T) := by rw [← unhide HE]; exact HTT
    rcases Bool.eq_false_or_eq_true E.low with hl | hl
    · have hmu : mute = true := by
        rcases Bool.eq_false_or_eq_true mute with e | e
        · exact e
        · exact absurd ⟨hl, e⟩ hlow
      rw [hl] at k2
      rw [hmu] at k4
      clear hlow
      go_enter Try.func82, Try.ntmps82
      go_wp2_with fail
      refine (demand_any S (unhide HH) hp (unhide HXn)).mono ?_
      rintro e w1 ⟨rfl, hd⟩
      have r1 := hd.1.cL
      have rt := hd.1.cT
      rw [sl_pos (by omega)] at rt
      have rt1 : w1.cell? ⟨E.gt, k, none⟩ = some (.int .i64 (st.T k : Int)) := by have := hd.1.rt.cell hk; rw [unhide HDT] at this; exact this
      have HD := hide hd
      clear hd
      go_wp2_with fail
      refine (wjoin_any L hn (unhide HD).1 hp (unhide HTn)).mono ?_
      rintro e w3 ⟨rfl, rfl⟩
      go_wp2_with fail
      go_ret
      exact ⟨rfl, by rw [unhide HE]; exact unhide HD⟩
    · rw [hl] at k2
      clear hlow
      go_enter Try.func82, Try.ntmps82
      go_wp2_with fail
      refine (demand_any S (unhide HH) hp (unhide HXn)).mono ?_
      rintro e w1 ⟨rfl, hd⟩
      have r1 := hd.1.cL
      have rt := hd.1.cT
      rw [sl_pos (by omega)] at rt
      have rt1 : w1.cell? ⟨E.gt, k, none⟩ = some (.int .i64 (st.T k : Int)) := by have := hd.1.rt.cell hk; rw [unhide HDT] at this; exact this
      have HD := hide hd
      clear hd
      go_wp2_with fail
      refine (wjoin_any L hn (unhide HD).1 hp (unhide HTn)).mono ?_
      rintro e w3 ⟨rfl, rfl⟩
      go_wp2_with fail
      go_ret
      exact ⟨rfl, by rw [unhide HE]; exact unhide HD⟩

end Go.Proofs.Ytfcflnnleadpkaa

namespace Go.Proofs.Ytfcflnnleadpkaa
open Go.RowKit

section
variable {c : Nat → Int} {R : Nat → Nat → Bool} {n nv : Nat} {V : Nat → Nat}

theorem scE_inv_op {f i j : Nat} (h : scE c nv (f + 1) i = (j, false)) (ho : isOp (c i) = true) : ∃ k, scE c nv f (i + 1) = (k, false) ∧ scE c nv f k = (j, false) := by
  rw [scE_op ho] at h
  cases e : (scE c nv f (i + 1)).2
  · rw [e] at h
    refine ⟨(scE c nv f (i + 1)).1, ?_, by simpa using h⟩
    exact Prod.ext rfl e
  · rw [e] at h
    simp at h
    rw [h] at e
    cases e
theorem scE_inv_leaf {f i j : Nat} (h : scE c nv (f + 1) i = (j, false)) (ho : isOp (c i) = false) : j = i + 1 ∧ (isDB (c i) 10 = true ∨ (isDB (c i) 10 = false ∧ isVar nv (c i) = true)) := by
  cases h2 : isDB (c i) 10
  · cases h3 : isVar nv (c i)
    · rw [scE_bad ho h2 h3] at h; simp at h
    · rw [scE_var ho h2 h3] at h; simp at h; exact ⟨h.symm, Or.inr ⟨rfl, rfl⟩⟩
  · rw [scE_dig ho h2] at h; simp at h; exact ⟨h.symm, Or.inl rfl⟩
theorem isVar_nat {x : Int} (h : isVar nv x = true) : ∃ k : Nat, x - 97 = (k : Int) ∧ k < nv := by
  unfold isVar at h; simp at h
  exact ⟨(x - 97).toNat, by omega, by omega⟩
theorem labE_op {f i : Nat} (h : isOp (c i) = true) : labE c R n V (f + 1) i =
      ((labE c R n V f (labE c R n V f (i + 1)).1).1, jn R n (labE c R n V f (i + 1)).2.1 (labE c R n V f (labE c R n V f (i + 1)).1).2.1,
        (if c i = 47 then jn R n (jn R n (labE c R n V f (i + 1)).2.2.1 (labE c R n V f (labE c R n V f (i + 1)).1).2.2.1) (labE c R n V f (labE c R n V f (i + 1)).1).2.1 else jn R n (labE c R n V f (i + 1)).2.2.1 (labE c R n V f (labE c R n V f (i + 1)).1).2.2.1),
        ((labE c R n V f (i + 1)).2.2.2 || (labE c R n V f (labE c R n V f (i + 1)).1).2.2.2) || (c i == 47)) := by
  simp only [labE, if_pos h]
theorem labE_dig {f i : Nat} (h : isOp (c i) = false) (h2 : isDB (c i) 10 = true) : labE c R n V (f + 1) i = (i + 1, bot R n, bot R n, false) := by
  simp [labE, h, h2]
theorem labE_var {f i : Nat} (h : isOp (c i) = false) (h2 : isDB (c i) 10 = false) : labE c R n V (f + 1) i = (i + 1, V (c i - 97).toNat, bot R n, false) := by
  simp [labE, h, h2]
/-- Where it ends; its labels are levels. -/
theorem labE_ok (L : Lattice n R) (h1 : 1 ≤ n) (hV : ∀ k, k < nv → V k < n) : ∀ f i j, scE c nv f i = (j, false) → (labE c R n V f i).1 = j ∧ (labE c R n V f i).2.1 < n ∧ (labE c R n V f i).2.2.1 < n := by
  intro f
  induction f with
  | zero => intro i j h; simp [scE] at h
  | succ f ih =>
    intro i j h
    cases ho : isOp (c i)
    · obtain ⟨rfl, h2 | ⟨h2, h3⟩⟩ := scE_inv_leaf h ho
      · rw [labE_dig ho h2]; exact ⟨rfl, bot_lt h1, bot_lt h1⟩
      · rw [labE_var ho h2]
        obtain ⟨k, e, hk⟩ := isVar_nat h3
        exact ⟨rfl, by rw [e]; exact hV k hk, bot_lt h1⟩
    · obtain ⟨k, e1, e2⟩ := scE_inv_op h ho
      obtain ⟨a1, a2, a3⟩ := ih _ _ e1
      obtain ⟨b1, b2, b3⟩ := ih _ _ e2
      rw [labE_op ho, a1]
      refine ⟨b1, (L.jn_lt a2 b2).1, ?_⟩
      simp only
      split
      · exact (L.jn_lt (L.jn_lt a3 b3).1 b2).1
      · exact (L.jn_lt a3 b3).1
end

variable {E : Env} {mute : Bool} {st : WS}

theorem results_tmp4 {fn : Func} {t u v x : Tmp} (h : fn.results = #[.tmp t, .tmp u, .tmp v, .tmp x]) (tmps : Array Value) (P : Program) (w : World) :
    (results fn tmps).run P w = .ok (.tuple #[tmps.getD t undef, tmps.getD u undef, tmps.getD v undef, tmps.getD x undef]) w := by
  simp [results, h]
def tup4 (r : Nat × Nat × Nat × Bool) : Value := .tuple #[.int .i64 (r.1 : Int), .int .i64 (r.2.1 : Int), .int .i64 (r.2.2.1 : Int), .bool r.2.2.2]

set_option maxHeartbeats 2000000 in
set_option maxRecDepth 10000 in
theorem wexpr_any (L : Lattice E.n E.R) (hn1 : 1 ≤ E.n) (hn : E.n ≤ 8) (hs : E.s.size ≤ 300) (hnv : E.nv ≤ 8) (hr : InR E.n E.nv E.np st) : ∀ (f : Nat) (w : World) (i j : Nat), At E w mute st → scE (bt E.s) E.nv f i = (j, false) →
    Calls Try.prog 105 #[.pointer (some ⟨E.wb, 0, none⟩), .int .i64 (i : Int)] w fun e w' => e = .returned (tup4 (labE (bt E.s) E.R E.n st.V f i)) ∧ ∃ q, w' = w.drewN q := by
  intro f
  induction f with
  | zero => intro w i j _ h; simp [scE] at h
  | succ f ih0 =>
    intro w i j h hsc
    have IH := hide ih0
    clear ih0
    have HH := hide h
    have k0 := h.cP
    have k1 := h.cL
    have kS := h.cS
    have kO := h.cO
    have HO := hide h.ord
    clear h
    have ⟨hb0, hb1⟩ := bt_bd E.s i
    cases ho : isOp (bt E.s i)
    · obtain ⟨rfl, h2⟩ := scE_inv_leaf hsc ho
      clear hsc
      rcases h2 with h2 | ⟨h2, h3⟩
      · have hi := isDB_lt h2
        have hbq := bt_eq E.s i hi
        have hi' : (i : Int) < (E.s.size : Int) := by omega
        have HE := hide (labE_dig (R := E.R) (n := E.n) (V := st.V) (f := f) ho h2)
        have HD := hide (show dgt (bt E.s i) 10 = bt E.s i - 48 by unfold dgt; rw [h2]; rfl)
        have hge : decide (0 ≤ bt E.s i - 48) = true := by have := (isDB_iff _ _).1 h2; simp; omega
        have h48 : 48 ≤ bt E.s i := ((isDB_iff _ _).1 h2).1
        clear h2
        go_enter Try.func105, Try.ntmps105
        go_wp2_with fail
        refine (Bottom_any _ _ _ _ _ _ _ hn (unhide HO)).mono ?_
        rintro e w' ⟨rfl, rfl⟩
        go_wp2_with fail
        refine (op_any _ _).mono ?_
        rintro e w' ⟨rfl, rfl⟩
        rw [ho]
        go_wp2_with fail
        refine (digit_any _ _ _ hb0 hb1).mono ?_
        rintro e w' ⟨rfl, rfl⟩
        rw [unhide HD]
        go_wp2_with fail
        refine bodyPost_ret (results_tmp4 rfl _ _ _) rfl ⟨?_, 0, rfl⟩
        rw [unhide HE]
        go_num
      · have hi := isVar_lt h3
        have hbq := bt_eq E.s i hi
        have hi' : (i : Int) < (E.s.size : Int) := by omega
        have HE := hide (labE_var (R := E.R) (n := E.n) (V := st.V) (f := f) ho h2)
        have HD := hide (show dgt (bt E.s i) 10 = -1 by unfold dgt; rw [h2]; rfl)
        obtain ⟨k, hk, hkn⟩ := isVar_nat h3
        have kv := (unhide HH).cV
        rw [sl_pos (by omega)] at kv
        have v1 : w.cell? ⟨E.gv, k, none⟩ = some (.int .i64 (st.V k : Int)) := (unhide HH).rv.cell hkn
        have hk' : (k : Int) < (E.nv : Int) := by omega
        have hwr : IntKind.i64.wrap ((i : Int) + 1) = (i : Int) + 1 := wrap_i64_id _ (by omega) (by omega)
        have hwk : IntKind.i64.wrap (bt E.s i - 97) = (k : Int) := by rw [hk]; exact wrap_i64_id _ (by omega) (by omega)
        have HK := hide (show (bt E.s i - 97).toNat = k by omega)
        have HKK := hide hk
        clear h2 h3 hk
        go_enter Try.func105, Try.ntmps105
        go_wp2_with fail
        refine (Bottom_any _ _ _ _ _ _ _ hn (unhide HO)).mono ?_
        rintro e w' ⟨rfl, rfl⟩
        go_wp2_with fail
        refine (op_any _ _).mono ?_
        rintro e w' ⟨rfl, rfl⟩
        rw [ho]
        go_wp2_with fail
        refine (digit_any _ _ _ hb0 hb1).mono ?_
        rintro e w' ⟨rfl, rfl⟩
        rw [unhide HD]
        go_wp2_with fail
        go_quiet (fail)
        go_wp2_with fail
        refine bodyPost_ret (results_tmp4 rfl _ _ _) rfl ⟨?_, _, rfl⟩
        rw [unhide HE, unhide HK]
        go_num
    · obtain ⟨k, e1, e2⟩ := scE_inv_op hsc ho
      have hi := isOp_lt ho
      have hbq := bt_eq E.s i hi
      have hi' : (i : Int) < (E.s.size : Int) := by omega
      have HE := hide (labE_op (R := E.R) (n := E.n) (V := st.V) (f := f) ho)
      have HA := hide (labE_ok (c := bt E.s) L hn1 hr.V f (i + 1) k e1)
      have HB := hide (labE_ok (c := bt E.s) L hn1 hr.V f k j e2)
      have E1 := hide e1
      have E2 := hide e2
      clear hsc e1 e2
      have HK := hide (show i + 1 ≤ k ∧ k ≤ E.s.size by
        have h1 := scE_le (bt E.s) E.nv f (i + 1)
        have h2 := scE_sz E.s E.nv f (i + 1) hi
        rw [unhide E1] at h1 h2
        exact ⟨h1, h2⟩)
      obtain ⟨r1, HR1⟩ : ∃ r1, Hid (labE (bt E.s) E.R E.n st.V f (i + 1) = r1) := ⟨_, rfl⟩
      rw [unhide HR1] at HA HE
      obtain ⟨x1, x2, x3, x4⟩ := r1
      have hx1 : x1 = k := (unhide HA).1
      subst hx1
      obtain ⟨r2, HR2⟩ : ∃ r2, Hid (labE (bt E.s) E.R E.n st.V f x1 = r2) := ⟨_, rfl⟩
      simp only [unhide HR2] at HB HE
      obtain ⟨y1, y2, y3, y4⟩ := r2
      have hy1 : y1 = j := (unhide HB).1
      subst hy1
      simp only at HA HB HE
      cases h47 : (bt E.s i == 47)
      · have HE2 := hide (show labE (bt E.s) E.R E.n st.V (f + 1) i = (y1, jn E.R E.n x2 y2, jn E.R E.n x3 y3, x4 || y4) by
          rw [unhide HE, h47, if_neg (by simpa using h47)]; simp)
        go_enter Try.func105, Try.ntmps105
        go_wp2_with fail
        refine (Bottom_any _ _ _ _ _ _ _ hn (unhide HO)).mono ?_
        rintro e w' ⟨rfl, rfl⟩
        go_wp2_with fail
        refine (op_any _ _).mono ?_
        rintro e w' ⟨rfl, rfl⟩
        rw [ho]
        go_wp2_with fail
        rw [show (i : Int) + 1 = ((i + 1 : Nat) : Int) by omega]
        refine (unhide IH _ _ _ (unhide HH) (unhide E1)).mono ?_
        rintro e w1 ⟨rfl, q1, rfl⟩
        rw [unhide HR1]
        simp only [tup4]
        go_wp2_with fail
        refine (unhide IH _ _ _ ((unhide HH).drewN q1) (unhide E2)).mono ?_
        rintro e w2 ⟨rfl, q2, rfl⟩
        rw [unhide HR2]
        simp only [tup4]
        go_wp2_with fail
        refine (wjoin_any L hn ((unhide HH).drewN (q1 + q2)) (unhide HA).2.2 (unhide HB).2.2).mono ?_
        rintro e w3 ⟨rfl, rfl⟩
        go_wp2_with fail
        refine (wjoin_any L hn ((unhide HH).drewN (q1 + q2)) (unhide HA).2.1 (unhide HB).2.1).mono ?_
        rintro e w3 ⟨rfl, rfl⟩
        cases x4 <;> cases y4
        all_goals
          go_wp2_with fail
          refine bodyPost_ret (results_tmp4 rfl _ _ _) rfl ⟨?_, _, rfl⟩
          rw [unhide HE2]
          rfl
      · have HE2 := hide (show labE (bt E.s) E.R E.n st.V (f + 1) i = (y1, jn E.R E.n x2 y2, jn E.R E.n (jn E.R E.n x3 y3) y2, true) by
          rw [unhide HE, h47, if_pos (by simpa using h47)]; simp)
        have HJ := hide (L.jn_lt (unhide HA).2.2 (unhide HB).2.2)
        go_enter Try.func105, Try.ntmps105
        go_wp2_with fail
        refine (Bottom_any _ _ _ _ _ _ _ hn (unhide HO)).mono ?_
        rintro e w' ⟨rfl, rfl⟩
        go_wp2_with fail
        refine (op_any _ _).mono ?_
        rintro e w' ⟨rfl, rfl⟩
        rw [ho]
        go_wp2_with fail
        rw [show (i : Int) + 1 = ((i + 1 : Nat) : Int) by omega]
        refine (unhide IH _ _ _ (unhide HH) (unhide E1)).mono ?_
        rintro e w1 ⟨rfl, q1, rfl⟩
        rw [unhide HR1]
        simp only [tup4]
        go_wp2_with fail
        refine (unhide IH _ _ _ ((unhide HH).drewN q1) (unhide E2)).mono ?_
        rintro e w2 ⟨rfl, q2, rfl⟩
        rw [unhide HR2]
        simp only [tup4]
        go_wp2_with fail
        refine (wjoin_any L hn ((unhide HH).drewN (q1 + q2)) (unhide HA).2.2 (unhide HB).2.2).mono ?_
        rintro e w3 ⟨rfl, rfl⟩
        go_wp2_with fail
        refine (wjoin_any L hn ((unhide HH).drewN (q1 + q2)) (unhide HJ).1 (unhide HB).2.1).mono ?_
        rintro e w3 ⟨rfl, rfl⟩
        go_wp2_with fail
        refine (wjoin_any L hn ((unhide HH).drewN (q1 + q2)) (unhide HA).2.1 (unhide HB).2.1).mono ?_
        rintro e w3 ⟨rfl, rfl⟩
        cases x4 <;> cases y4
        all_goals
          go_wp2_with fail
          refine bodyPost_ret (results_tmp4 rfl _ _ _) rfl ⟨?_, _, rfl⟩
          rw [unhide HE2]
          rfl

end Go.Proofs.Ytfcflnnleadpkaa

namespace Go.Proofs.Ytfcflnnleadpkaa
open Go.RowKit
variable {E : Env} {mute : Bool} {st : WS}

def tup3 (r : Nat × Nat × Nat) : Value := .tuple #[.int .i64 (r.1 : Int), .int .i64 (r.2.1 : Int), .int .i64 (r.2.2 : Int)]
theorem condW_ok {c : Nat → Int} {R : Nat → Nat → Bool} {n nv : Nat} {V : Nat → Nat} (L : Lattice n R) (h1 : 1 ≤ n) (hV : ∀ k, k < nv → V k < n) {f i j p : Nat} (hp : p < n) (h : scE c nv f i = (j, false)) :
    (condW c R n V f i p).1 = j ∧ (condW c R n V f i p).2.1 < n ∧ (condW c R n V f i p).2.2 < n := by
  obtain ⟨a1, a2, a3⟩ := labE_ok (c := c) L h1 hV f i j h
  unfold condW
  refine ⟨a1, (L.jn_lt hp a2).1, ?_⟩
  simp only
  split
  · exact (L.jn_lt hp a3).1
  · exact bot_lt h1

set_option maxHeartbeats 2000000 in
set_option maxRecDepth 10000 in
theorem wcond_any (L : Lattice E.n E.R) (hn1 : 1 ≤ E.n) (hn : E.n ≤ 8) (hs : E.s.size ≤ 300) (hnv : E.nv ≤ 8) (hr : InR E.n E.nv E.np st) (f : Nat) (w : World) (i j p : Nat) (h : At E w mute st) (hsc : scE (bt E.s) E.nv f i = (j, false)) (hp : p < E.n) :
    Calls Try.prog 78 #[.pointer (some ⟨E.wb, 0, none⟩), .int .i64 (i : Int), .int .i64 (p : Int)] w fun e w' => e = .returned (tup3 (condW (bt E.s) E.R E.n st.V f i p)) ∧ ∃ q, w' = w.drewN q := by
  have HH := hide h
  have k0 := h.cP
  have kO := h.cO
  have HO := hide h.ord
  have HA := hide (labE_ok (c := bt E.s) L hn1 hr.V f i j hsc)
  have HE := hide (show condW (bt E.s) E.R E.n st.V f i p = ((labE (bt E.s) E.R E.n st.V f i).1, jn E.R E.n p (labE (bt E.s) E.R E.n st.V f i).2.1, if (labE (bt E.s) E.R E.n st.V f i).2.2.2 = true then jn E.R E.n p (labE (bt E.s) E.R E.n st.V f i).2.2.1 else bot E.R E.n) from rfl)
  have HW := hide (wexpr_any L hn1 hn hs hnv hr f w i j h hsc)
  clear h hsc
  obtain ⟨r1, HR1⟩ : ∃ r1, Hid (labE (bt E.s) E.R E.n st.V f i = r1) := ⟨_, rfl⟩
  simp only [unhide HR1] at HA HE HW
  obtain ⟨x1, x2, x3, x4⟩ := r1
  cases x4
  · have HE2 := hide (show condW (bt E.s) E.R E.n st.V f i p = (x1, jn E.R E.n p x2, bot E.R E.n) by rw [unhide HE]; rfl)
    go_enter Try.func78, Try.ntmps78
    go_wp2_with fail
    refine (unhide HW).mono ?_
    rintro e w1 ⟨rfl, q1, rfl⟩
    simp only [tup4]
    go_wp2_with fail
    refine (wjoin_any L hn ((unhide HH).drewN q1) hp (unhide HA).2.1).mono ?_
    rintro e w3 ⟨rfl, rfl⟩
    go_wp2_with fail
    refine (Bottom_any _ _ _ _ _ _ _ hn ((unhide HH).drewN q1).ord).mono ?_
    rintro e w3 ⟨rfl, rfl⟩
    go_wp2_with fail
    go_ret3
    exact ⟨by rw [unhide HE2]; rfl, _, rfl⟩
  · have HE2 := hide (show condW (bt E.s) E.R E.n st.V f i p = (x1, jn E.R E.n p x2, jn E.R E.n p x3) by rw [unhide HE]; rfl)
    go_enter Try.func78, Try.ntmps78
    go_wp2_with fail
    refine (unhide HW).mono ?_
    rintro e w1 ⟨rfl, q1, rfl⟩
    simp only [tup4]
    go_wp2_with fail
    refine (wjoin_any L hn ((unhide HH).drewN q1) hp (unhide HA).2.1).mono ?_
    rintro e w3 ⟨rfl, rfl⟩
    go_wp2_with fail
    refine (Bottom_any _ _ _ _ _ _ _ hn ((unhide HH).drewN q1).ord).mono ?_
    rintro e w3 ⟨rfl, rfl⟩
    go_wp2_with fail
    refine (wjoin_any L hn ((unhide HH).drewN q1) hp (unhide HA).2.2).mono ?_
    rintro e w3 ⟨rfl, rfl⟩
    go_wp2_with fail
    go_ret3
    exact ⟨by rw [unhide HE2]; rfl, _, rfl⟩

end Go.Proofs.Ytfcflnnleadpkaa

namespace Go.Proofs.Ytfcflnnleadpkaa

section
variable {c : Nat → Int} {nv N np : Nat} {f i j : Nat}

theorem wfS_inv_seq (h : wfS c nv N np (f + 1) i = (j, false)) (hc : c i = 44 ∨ c i = 116) : ∃ k, wfS c nv N np f (i + 1) = (k, false) ∧ wfS c nv N np f k = (j, false) := by
  simp only [wfS] at h
  rw [if_neg (by omega), if_pos hc] at h
  cases e : (wfS c nv N np f (i + 1)).2
  · rw [e] at h
    exact ⟨(wfS c nv N np f (i + 1)).1, Prod.ext rfl e, by simpa using h⟩
  · rw [e] at h; simp at h
theorem wfS_inv_eq (h : wfS c nv N np (f + 1) i = (j, false)) (hc : c i = 61) : isVar nv (c (i + 1)) = true ∧ scE c nv f (i + 2) = (j, false) := by
  simp only [wfS] at h
  rw [if_neg (by omega), if_neg (by omega), if_pos hc] at h
  cases e : isVar nv (c (i + 1))
  · rw [e] at h; simp at h
  · rw [e] at h; exact ⟨rfl, by simpa using h⟩
theorem wfS_inv_i (h : wfS c nv N np (f + 1) i = (j, false)) (hc : c i = 105) : ∃ k m, scE c nv f (i + 1) = (k, false) ∧ wfS c nv N np f k = (m, false) ∧ wfS c nv N np f m = (j, false) := by
  simp only [wfS] at h
  rw [if_neg (by omega), if_neg (by omega), if_neg (by omega), if_pos hc] at h
  cases e : (scE c nv f (i + 1)).2
  · rw [e] at h
    simp only [Bool.false_eq_true, if_false] at h
    cases e2 : (wfS c nv N np f (scE c nv f (i + 1)).1).2
    · rw [e2] at h
      exact ⟨_, _, Prod.ext rfl e, Prod.ext rfl e2, by simpa using h⟩
    · rw [e2] at h; simp at h
  · rw [e] at h; simp at h
theorem wfS_inv_w (h : wfS c nv N np (f + 1) i = (j, false)) (hc : c i = 119) : ∃ k, scE c nv f (i + 1) = (k, false) ∧ wfS c nv N np f k = (j, false) := by
  simp only [wfS] at h
  rw [if_neg (by omega), if_neg (by omega), if_neg (by omega), if_neg (by omega), if_pos hc] at h
  cases e : (scE c nv f (i + 1)).2
  · rw [e] at h
    exact ⟨_, Prod.ext rfl e, by simpa using h⟩
  · rw [e] at h; simp at h
theorem wfS_inv_r (h : wfS c nv N np (f + 1) i = (j, false)) (hc : c i = 114) : isDB (c (i + 1)) N = true ∧ isVar nv (c (i + 2)) = true ∧ j = i + 3 := by
  simp only [wfS] at h
  rw [if_neg (by omega), if_neg (by omega), if_neg (by omega), if_neg (by omega), if_neg (by omega), if_pos hc] at h
  split at h
  · rename_i hh
    simp at h
    exact ⟨hh.1, hh.2, h.symm⟩
  · simp at h
theorem wfS_inv_o (h : wfS c nv N np (f + 1) i = (j, false)) (hc : c i = 111) : isDB (c (i + 1)) N = true ∧ scE c nv f (i + 2) = (j, false) := by
  simp only [wfS] at h
  rw [if_neg (by omega), if_neg (by omega), if_neg (by omega), if_neg (by omega), if_neg (by omega), if_neg (by omega), if_pos hc] at h
  cases e : isDB (c (i + 1)) N
  · rw [e] at h; simp at h
  · rw [e] at h; exact ⟨rfl, by simpa using h⟩
theorem wfS_inv_c (h : wfS c nv N np (f + 1) i = (j, false)) (hc : c i = 99) : isDB (c (i + 1)) np = true ∧ j = i + 2 := by
  simp only [wfS] at h
  rw [if_neg (by omega), if_neg (by omega), if_neg (by omega), if_neg (by omega), if_neg (by omega), if_neg (by omega), if_neg (by omega), if_pos hc] at h
  split at h
  · rename_i hh; simp at h; exact ⟨hh, h.symm⟩
  · simp at h
theorem wfS_inv_plain (h : wfS c nv N np (f + 1) i = (j, false)) (hc : c i = 46 ∨ c i = 120) : j = i + 1 := by
  simp only [wfS] at h
  rw [if_pos hc] at h
  simp at h; exact h.symm
/-- The letters. -/
theorem wfS_letter (h : wfS c nv N np (f + 1) i = (j, false)) : (c i = 46 ∨ c i = 120) ∨ (c i = 44 ∨ c i = 116) ∨ c i = 61 ∨ c i = 105 ∨ c i = 119 ∨ c i = 114 ∨ c i = 111 ∨ c i = 99 := by
  by_cases h1 : c i = 46 ∨ c i = 120
  · exact Or.inl h1
  by_cases h2 : c i = 44 ∨ c i = 116
  · exact Or.inr (Or.inl h2)
  by_cases h3 : c i = 61
  · exact Or.inr (Or.inr (Or.inl h3))
  by_cases h4 : c i = 105
  · exact Or.inr (Or.inr (Or.inr (Or.inl h4)))
  by_cases h5 : c i = 119
  · exact Or.inr (Or.inr (Or.inr (Or.inr (Or.inl h5))))
  by_cases h6 : c i = 114
  · exact Or.inr (Or.inr (Or.inr (Or.inr (Or.inr (Or.inl h6)))))
  by_cases h7 : c i = 111
  · exact Or.inr (Or.inr (Or.inr (Or.inr (Or.inr (Or.inr (Or.inl h7))))))
  by_cases h8 : c i = 99
  · exact Or.inr (Or.inr (Or.inr (Or.inr (Or.inr (Or.inr (Or.inr h8))))))
  simp only [wfS] at h
  rw [if_neg h1, if_neg h2, if_neg h3, if_neg h4, if_neg h5, if_neg h6, if_neg h7, if_neg h8] at h
  simp at h
end

section
variable {c : Nat → Int} {R : Nat → Nat → Bool} {n nv np : Nat} {fx : Nat → Int} {low mute : Bool} {st : WS} {f i p : Nat}

theorem wkS_seq (h : c i = 44 ∨ c i = 116) : wkS c R n fx low (f + 1) mute i p st =
    ((wkS c R n fx low f mute (wkS c R n fx low f mute (i + 1) p st).1 (jn R n p (wkS c R n fx low f mute (i + 1) p st).2.1) (wkS c R n fx low f mute (i + 1) p st).2.2).1,
     (if c i = 44 then jn R n (wkS c R n fx low f mute (i + 1) p st).2.1 (wkS c R n fx low f mute (wkS c R n fx low f mute (i + 1) p st).1 (jn R n p (wkS c R n fx low f mute (i + 1) p st).2.1) (wkS c R n fx low f mute (i + 1) p st).2.2).2.1
      else (wkS c R n fx low f mute (wkS c R n fx low f mute (i + 1) p st).1 (jn R n p (wkS c R n fx low f mute (i + 1) p st).2.1) (wkS c R n fx low f mute (i + 1) p st).2.2).2.1),
     (wkS c R n fx low f mute (wkS c R n fx low f mute (i + 1) p st).1 (jn R n p (wkS c R n fx low f mute (i + 1) p st).2.1) (wkS c R n fx low f mute (i + 1) p st).2.2).2.2) := by
  simp only [wkS]; rw [if_pos h]
theorem wkS_eq (h : c i = 61) : wkS c R n fx low (f + 1) mute i p st = ((condW c R n st.V f (i + 2) p).1, (condW c R n st.V f (i + 2) p).2.2, atLW R n fx low mute st (c (i + 1) - 97).toNat (condW c R n st.V f (i + 2) p).2.1 i) := by
  simp only [wkS]; rw [if_neg (by omega), if_pos h]
theorem wkS_i (h : c i = 105) : wkS c R n fx low (f + 1) mute i p st =
    (let e := condW c R n st.V f (i + 1) p
     let r1 := wkS c R n fx low f mute e.1 e.2.1 st
     let r2 := wkS c R n fx low f mute r1.1 e.2.1 r1.2.2
     (r2.1, jn R n e.2.2 (jn R n r1.2.1 r2.2.1), r2.2.2)) := by
  simp only [wkS]; rw [if_neg (by omega), if_neg (by omega), if_pos h]
theorem wkS_w (h : c i = 119) : wkS c R n fx low (f + 1) mute i p st =
    (let e := condW c R n st.V f (i + 1) p
     let r := jn R n e.2.1 e.2.2
     let r1 := wkS c R n fx low f true e.1 r st
     (r1.1, jn R n e.2.2 r1.2.1, if mute = true then r1.2.2 else (wkS c R n fx low f false e.1 (jn R n r r1.2.1) r1.2.2).2.2)) := by
  simp only [wkS]; rw [if_neg (by omega), if_neg (by omega), if_neg (by omega), if_pos h]
theorem wkS_r (h : c i = 114) : wkS c R n fx low (f + 1) mute i p st = (i + 3, jn R n p (c (i + 1) - 48).toNat, atLW R n fx low mute (demW R mute st p (c (i + 1) - 48).toNat i) (c (i + 2) - 97).toNat (jn R n p (c (i + 1) - 48).toNat) i) := by
  simp only [wkS]; rw [if_neg (by omega), if_neg (by omega), if_neg (by omega), if_neg (by omega), if_pos h]
theorem wkS_o (h : c i = 111) : wkS c R n fx low (f + 1) mute i p st = ((condW c R n st.V f (i + 2) p).1, (condW c R n st.V f (i + 2) p).2.2, demW R mute st (condW c R n st.V f (i + 2) p).2.1 (c (i + 1) - 48).toNat i) := by
  simp only [wkS]; rw [if_neg (by omega), if_neg (by omega), if_neg (by omega), if_neg (by omega), if_neg (by omega), if_pos h]
theorem wkS_x (h : c i = 120) : wkS c R n fx low (f + 1) mute i p st = (i + 1, p, st) := by
  simp only [wkS]; rw [if_neg (by omega), if_neg (by omega), if_neg (by omega), if_neg (by omega), if_neg (by omega), if_neg (by omega), if_pos h]
theorem wkS_c (h : c i = 99) : wkS c R n fx low (f + 1) mute i p st = (i + 2, jn R n p (st.T (c (i + 1) - 48).toNat), callW R n low mute st (c (i + 1) - 48).toNat p i) := by
  simp only [wkS]; rw [if_neg (by omega), if_neg (by omega), if_neg (by omega), if_neg (by omega), if_neg (by omega), if_neg (by omega), if_neg (by omega), if_pos h]
theorem wkS_dot (h : c i = 46) : wkS c R n fx low (f + 1) mute i p st = (i + 1, bot R n, st) := by
  simp only [wkS]; rw [if_neg (by omega), if_neg (by omega), if_neg (by omega), if_neg (by omega), if_neg (by omega), if_neg (by omega), if_neg (by omega), if_neg (by omega)]

theorem InR.dem (h : InR n nv np st) {a b k : Nat} : InR n nv np (demW R mute st a b k) := by
  unfold demW; split
  · exact ⟨h.V, h.X, h.T⟩
  · exact h
theorem InR.atL (L : Lattice n R) (h : InR n nv np st) {v a k : Nat} (hv : v < nv) (ha : a < n) : InR n nv np (atLW R n fx low mute st v a k) := by
  unfold atLW; split
  · exact h
  · split
    · split
      · exact h
      · refine ⟨fun k hk => ?_, h.X, h.T⟩
        show setF st.V v (jn R n (st.V v) a) k < n
        unfold setF; split
        · exact (L.jn_lt (h.V v hv) ha).1
        · exact h.V k hk
    · exact h.dem
theorem InR.call (L : Lattice n R) (h : InR n nv np st) {v a k : Nat} (hv : v < np) (ha : a < n) : InR n nv np (callW R n low mute st v a k) := by
  unfold callW; split
  · split
    · exact h
    · refine ⟨h.V, fun k hk => ?_, h.T⟩
      show setF st.X v (jn R n (st.X v) a) k < n
      unfold setF; split
      · exact (L.jn_lt (h.X v hv) ha).1
      · exact h.X k hk
  · exact h.dem
theorem isDB_nat {x : Int} {m : Nat} (h : isDB x m = true) : ∃ k : Nat, x - 48 = (k : Int) ∧ k < m := by
  have := (isDB_iff x m).1 h
  exact ⟨(x - 48).toNat, by omega, by omega⟩

/-- Where a statement ends; its throw is a level; the labels stay levels. -/
theorem wkS_ok (L : Lattice n R) (h1 : 1 ≤ n) : ∀ (f : Nat) (mute : Bool) (i p j : Nat) (st : WS), wfS c nv n np f i = (j, false) → p < n → InR n nv np st →
    (wkS c R n fx low f mute i p st).1 = j ∧ (wkS c R n fx low f mute i p st).2.1 < n ∧ InR n nv np (wkS c R n fx low f mute i p st).2.2 := by
  intro f
  induction f with
  | zero => intro mute i p j st h; simp [wfS] at h
  | succ f ih =>
    intro mute i p j st h hp hr
    rcases wfS_letter h with hc | hc | hc | hc | hc | hc | hc | hc
    · have := wfS_inv_plain h hc
      subst this
      rcases hc with hc | hc
      · rw [wkS_dot hc]; exact ⟨rfl, bot_lt h1, hr⟩
      · rw [wkS_x hc]; exact ⟨rfl, hp, hr⟩
    · obtain ⟨k, e1, e2⟩ := wfS_inv_seq h hc
      obtain ⟨a1, a2, a3⟩ := ih mute (i + 1) p k st e1 hp hr
      rw [wkS_seq hc, a1]
      obtain ⟨b1, b2, b3⟩ := ih mute k (jn R n p (wkS c R n fx low f mute (i + 1) p st).2.1) j _ e2 (L.jn_lt hp a2).1 a3
      refine ⟨b1, ?_, b3⟩
      simp only
      split
      · exact (L.jn_lt a2 b2).1
      · exact b2
    · obtain ⟨e1, e2⟩ := wfS_inv_eq h hc
      obtain ⟨a1, a2, a3⟩ := condW_ok (c := c) L h1 hr.V hp e2
      obtain ⟨k, ek, hk⟩ := isVar_nat e1
      rw [wkS_eq hc]
      exact ⟨a1, a3, hr.atL L (by rw [ek]; exact hk) a2⟩
    · obtain ⟨k, m, e1, e2, e3⟩ := wfS_inv_i h hc
      obtain ⟨a1, a2, a3⟩ := condW_ok (c := c) L h1 hr.V hp e1
      rw [wkS_i hc]
      simp only
      rw [a1]
      obtain ⟨b1, b2, b3⟩ := ih mute k _ m st e2 a2 hr
      rw [b1]
      obtain ⟨d1, d2, d3⟩ := ih mute m _ j _ e3 a2 b3
      exact ⟨d1, (L.jn_lt a3 (L.jn_lt b2 d2).1).1, d3⟩
    · obtain ⟨k, e1, e2⟩ := wfS_inv_w h hc
      obtain ⟨a1, a2, a3⟩ := condW_ok (c := c) L h1 hr.V hp e1
      rw [wkS_w hc]
      simp only
      rw [a1]
      have hrr := (L.jn_lt a2 a3).1
      obtain ⟨b1, b2, b3⟩ := ih true k _ j st e2 hrr hr
      refine ⟨b1, (L.jn_lt a3 b2).1, ?_⟩
      split
      · exact b3
      · exact (ih false k _ j _ e2 (L.jn_lt hrr b2).1 b3).2.2
    · obtain ⟨e1, e2, rfl⟩ := wfS_inv_r h hc
      obtain ⟨d, ed, hd⟩ := isDB_nat e1
      obtain ⟨k, ek, hk⟩ := isVar_nat e2
      rw [wkS_r hc, ed, ek]
      exact ⟨rfl, (L.jn_lt hp hd).1, hr.dem.atL L hk (L.jn_lt hp hd).1⟩
    · obtain ⟨e1, e2⟩ := wfS_inv_o h hc
      obtain ⟨a1, a2, a3⟩ := condW_ok (c := c) L h1 hr.V hp e2
      rw [wkS_o hc]
      exact ⟨a1, a3, hr.dem⟩
    · obtain ⟨e1, rfl⟩ := wfS_inv_c h hc
      obtain ⟨d, ed, hd⟩ := isDB_nat e1
      rw [wkS_c hc, ed]
      exact ⟨rfl, (L.jn_lt hp (hr.T d hd)).1, hr.call L hd hp⟩
end

end Go.Proofs.Ytfcflnnleadpkaa

namespace Go.Proofs.Ytfcflnnleadpkaa
open Go.RowKit
variable {E : Env} {w : World} {mute : Bool} {st : WS} {f i j p : Nat}

/-- What stays true throughout a look. -/
structure EnvOk (E : Env) : Prop where
  S : Sep E
  L : Lattice E.n E.R
  n1 : 1 ≤ E.n
  n8 : E.n ≤ 8
  sz : E.s.size ≤ 300
  nv : E.nv ≤ 8
  np : E.np ≤ 4
def wk (E : Env) (f : Nat) (mute : Bool) (i p : Nat) (st : WS) : Nat × Nat × WS := wkS (bt E.s) E.R E.n (fixV (bt E.s) E.n) E.low f mute i p st
def wf0 (E : Env) (f i : Nat) : Nat × Bool := wfS (bt E.s) E.nv E.n E.np f i
def tup2 (a b : Nat) : Value := .tuple #[.int .i64 (a : Int), .int .i64 (b : Int)]
theorem wk_ok (K : EnvOk E) (h : wf0 E f i = (j, false)) (hp : p < E.n) (hr : InR E.n E.nv E.np st) : (wk E f mute i p st).1 = j ∧ (wk E f mute i p st).2.1 < E.n ∧ InR E.n E.nv E.np (wk E f mute i p st).2.2 :=
  wkS_ok K.L K.n1 f mute i p j st h hp hr
/-- A statement is looked at as it should be. -/
def WOk (E : Env) (f : Nat) : Prop := ∀ (w : World) (mute : Bool) (st : WS) (i p j : Nat), At E w mute st → InR E.n E.nv E.np st → wf0 E f i = (j, false) → p < E.n → i < E.s.size →
    Calls Try.prog 59 #[.pointer (some ⟨E.wb, 0, none⟩), .int .i64 (i : Int), .int .i64 (p : Int)] w fun e w' => e = .returned (tup2 (wk E f mute i p st).1 (wk E f mute i p st).2.1) ∧ At E w' mute (wk E f mute i p st).2.2 ∧ Fr E w w'

def loopSt (E : Env) (f : Nat) (mute : Bool) (i r : Nat) (st : WS) : WS := if mute = true then (wk E f true i r st).2.2 else (wk E f false i (jn E.R E.n r (wk E f true i r st).2.1) (wk E f true i r st).2.2).2.2

set_option maxHeartbeats 1000000 in
set_option maxRecDepth 10000 in
theorem wloop_any (K : EnvOk E) (IH : Hid (WOk E f)) (h : At E w mute st) (hr : InR E.n E.nv E.np st) {r : Nat} (hf : wf0 E f i = (j, false)) (hrn : r < E.n) (hi : i < E.s.size) :
    Calls Try.prog 80 #[.pointer (some ⟨E.wb, 0, none⟩), .int .i64 (i : Int), .int .i64 (r : Int)] w fun e w' => e = .returned (tup2 (wk E f true i r st).1 (wk E f true i r st).2.1) ∧ At E w' mute (loopSt E f mute i r st) ∧ Fr E w w' := by
  have k4 := h.cMu
  have kz := h.fz 4
  have HT := hide (h.turn K.S 4 (.bool true) st.ra true st.bad rfl)
  have HO := hide (wk_ok (mute := true) K hf hrn hr)
  have HF := hide hf
  have HR := hide hr
  have HL := hide (show loopSt E f mute i r st = if mute = true then (wk E f true i r st).2.2 else (wk E f false i (jn E.R E.n r (wk E f true i r st).2.1) (wk E f true i r st).2.2).2.2 from rfl)
  clear h hf hr
  go_enter Try.func80, Try.ntmps80
  go_wp2_with fail
  refine (unhide IH _ true st i r j (unhide HT).1 (unhide HR) (unhide HF) hrn hi).mono ?_
  rintro e w1 ⟨rfl, ha, hfr⟩
  obtain ⟨x, HX⟩ : ∃ x, Hid (wk E f true i r st = x) := ⟨_, rfl⟩
  rw [unhide HX] at HO ha HL
  rw [unhide HX]
  obtain ⟨x1, x2, x3⟩ := x
  have y4 := ha.cMu
  have yz := ha.fz 4
  have HA := hide ha
  have HFR := hide ((unhide HT).2.trans hfr)
  have HT2 := hide (ha.turn K.S 4 (.bool mute) x3.ra mute x3.bad rfl)
  have z4 := (unhide HT2).1.cMu
  clear ha hfr
  simp only [tup2]
  cases mute
  · have HJ := hide (K.L.jn_lt hrn (unhide HO).2.1)
    go_wp2_with fail
    refine (wjoin_any K.L K.n8 (unhide HT2).1 hrn (unhide HO).2.1).mono ?_
    rintro e w3 ⟨rfl, rfl⟩
    go_wp2_with fail
    refine (unhide IH _ false x3 i _ j (unhide HT2).1 (unhide HO).2.2 (unhide HF) (unhide HJ).1 hi).mono ?_
    rintro e w4 ⟨rfl, ha4, hfr4⟩
    have HA4 := hide ha4
    have HF4 := hide (((unhide HFR).trans (unhide HT2).2).trans hfr4)
    clear ha4 hfr4
    go_wp2_with fail
    go_ret2
    exact ⟨by rw [unhide HX]; rfl, by rw [unhide HL]; exact unhide HA4, unhide HF4⟩
  · go_wp2_with fail
    go_ret2
    exact ⟨by rw [unhide HX]; rfl, by rw [unhide HL]; exact (unhide HT2).1, (unhide HFR).trans (unhide HT2).2⟩

theorem scE_lt {s : ByteArray} {nv f i j : Nat} (h : scE (bt s) nv f i = (j, false)) : i < s.size ∧ j ≤ s.size := by
  cases f with
  | zero => simp [scE] at h
  | succ f =>
    have hi : i < s.size := by
      cases ho : isOp (bt s i)
      · obtain ⟨_, h2 | ⟨_, h3⟩⟩ := scE_inv_leaf h ho
        · exact isDB_lt h2
        · exact isVar_lt h3
      · exact isOp_lt ho
    have h2 := scE_sz s nv (f + 1) i (by omega)
    rw [h] at h2
    exact ⟨hi, h2⟩
theorem wfS_lt {s : ByteArray} {nv N np : Nat} : ∀ (f i j : Nat), wfS (bt s) nv N np f i = (j, false) → i < s.size ∧ j ≤ s.size := by
  intro f
  induction f with
  | zero => intro i j h; simp [wfS] at h
  | succ f ih =>
    intro i j h
    have hl := wfS_letter h
    have hi : i < s.size := bt_lt (by omega)
    refine ⟨hi, ?_⟩
    rcases hl with hc | hc | hc | hc | hc | hc | hc | hc
    · rw [wfS_inv_plain h hc]; exact hi
    · obtain ⟨k, _, e2⟩ := wfS_inv_seq h hc; exact (ih _ _ e2).2
    · exact (scE_lt (wfS_inv_eq h hc).2).2
    · obtain ⟨k, m, _, _, e3⟩ := wfS_inv_i h hc; exact (ih _ _ e3).2
    · obtain ⟨k, _, e2⟩ := wfS_inv_w h hc; exact (ih _ _ e2).2
    · obtain ⟨_, e2, rfl⟩ := wfS_inv_r h hc; have := isVar_lt e2; omega
    · exact (scE_lt (wfS_inv_o h hc).2).2
    · obtain ⟨e1, rfl⟩ := wfS_inv_c h hc; have := isDB_lt e1; omega

/-- What a look at one statement is to come to. -/
def Looks (E : Env) (f : Nat) (w : World) (mute : Bool) (st : WS) (i p : Nat) : Prop :=
    Calls Try.prog 59 #[.pointer (some ⟨E.wb, 0, none⟩), .int .i64 (i : Int), .int .i64 (p : Int)] w fun e w' => e = .returned (tup2 (wk E f mute i p st).1 (wk E f mute i p st).2.1) ∧ At E w' mute (wk E f mute i p st).2.2 ∧ Fr E w w'

set_option maxHeartbeats 2000000 in
set_option maxRecDepth 100000 in
theorem wstmt_plain (K : EnvOk E) (h : At E w mute st) (hc : bt E.s i = 46 ∨ bt E.s i = 120) : Looks E (f + 1) w mute st i p := by
  unfold Looks
  have hi : i < E.s.size := bt_lt (by omega)
  have hs := K.sz
  have hbq := bt_eq E.s i hi
  have hi' : (i : Int) < (E.s.size : Int) := by omega
  have k0 := h.cP
  have kS := h.cS
  have kO := h.cO
  have HN := hide (show At E w mute st ∧ Fr E w w from ⟨h, Fr.refl _ _⟩)
  have HO := hide h.ord
  clear h
  rcases hc with hc | hc
  · have HE := hide (show wk E (f + 1) mute i p st = (i + 1, bot E.R E.n, st) from wkS_dot hc)
    rw [hc] at hbq
    clear hc
    go_enter Try.func59, Try.ntmps59
    go_wp2_with fail
    refine (Bottom_any _ _ _ _ _ _ _ K.n8 (unhide HO)).mono ?_
    rintro e w' ⟨rfl, rfl⟩
    go_wp2_with fail
    go_ret2
    exact ⟨by rw [unhide HE]; go_num, by rw [unhide HE]; exact unhide HN⟩
  · have HE := hide (show wk E (f + 1) mute i p st = (i + 1, p, st) from wkS_x hc)
    rw [hc] at hbq
    clear hc
    go_enter Try.func59, Try.ntmps59
    go_wp2_with fail
    refine (Bottom_any _ _ _ _ _ _ _ K.n8 (unhide HO)).mono ?_
    rintro e w' ⟨rfl, rfl⟩
    go_wp2_with fail
    go_ret2
    exact ⟨by rw [unhide HE]; go_num, by rw [unhide HE]; exact unhide HN⟩

end Go.Proofs.Ytfcflnnleadpkaa
