import Derived.Test.YtfcflnnleadpkaaGreatTjJ
import Derived.Test.YtfcflnnleadpkaaGreatYaJ
import Derived.Deep.QuietTactic
import Derived.BigQuiet
import Derived.Deep.RegionWith
import Derived.Deep.LoopGhost
import Derived.Deep.AppendLies
import Derived.Deep.RegionHeld3
namespace Go.Proofs.YtfcflnnleadpkaaGreat
open Go.RowKit

set_option maxHeartbeats 800000 in
set_option maxRecDepth 10000 in
theorem skipExpr_any (s : ByteArray) (nv : Nat) (hsz : s.size ≤ 300) : ∀ (f : Nat) (w : World) (i j : Nat), scE (bt s) nv f i = (j, false) →
    Calls Tryz.prog 68 #[.string s, .int .i64 (i : Int)] w fun e w' => e = .returned (.int .i64 (j : Int)) ∧ w' = w := by
  intro f
  induction f with
  | zero => intro w i j h; simp [scE] at h
  | succ f ih0 =>
    intro w i j hsc
    have IH := hide ih0
    clear ih0
    cases ho : isOp (bt s i)
    · obtain ⟨rfl, h2⟩ := scE_inv_leaf hsc ho
      have hi : i < s.size := by
        rcases h2 with h2 | ⟨_, h3⟩
        · exact isDB_lt h2
        · exact isVar_lt h3
      have hbq := bt_eq s i hi
      have hi' : (i : Int) < (s.size : Int) := by omega
      clear hsc h2
      go_enter Tryz.func68, Tryz.ntmps68
      go_wp2_with fail
      refine (op_any _ _).mono ?_
      rintro e w' ⟨rfl, rfl⟩
      rw [ho]
      go_wp2_with fail
      go_ret
      exact ⟨by go_num, rfl⟩
    · obtain ⟨k, e1, e2⟩ := scE_inv_op hsc ho
      have hi := isOp_lt ho
      have hbq := bt_eq s i hi
      have hi' : (i : Int) < (s.size : Int) := by omega
      have E1 := hide e1
      have E2 := hide e2
      clear hsc e1 e2
      go_enter Tryz.func68, Tryz.ntmps68
      go_wp2_with fail
      refine (op_any _ _).mono ?_
      rintro e w' ⟨rfl, rfl⟩
      rw [ho]
      go_wp2_with fail
      rw [show (i : Int) + 1 = ((i + 1 : Nat) : Int) by omega]
      refine (unhide IH _ _ _ (unhide E1)).mono ?_
      rintro e w' ⟨rfl, rfl⟩
      go_wp2_with fail
      refine (unhide IH _ _ _ (unhide E2)).mono ?_
      rintro e w' ⟨rfl, rfl⟩
      go_wp2_with fail
      go_ret
      exact ⟨rfl, rfl⟩

theorem wfS_inX {s : ByteArray} {nv n np f i j : Nat} (h : wfS (bt s) nv n np f i = (j, false)) : i < s.size := by
  cases f with
  | zero => simp [wfS] at h
  | succ f =>
    have h0 : bt s i ≠ 0 := by rcases wfS_letter h with hc | hc | hc | hc | hc | hc | hc | hc <;> omega
    unfold bt at h0
    split at h0
    · assumption
    · exact absurd rfl h0

set_option maxHeartbeats 1600000 in
set_option maxRecDepth 10000 in
theorem skip_any (s : ByteArray) (nv n np : Nat) (hsz : s.size ≤ 300) : ∀ (f : Nat) (w : World) (i j : Nat), wfS (bt s) nv n np f i = (j, false) →
    Calls Tryz.prog 33 #[.string s, .int .i64 (i : Int)] w fun e w' => e = .returned (.int .i64 (j : Int)) ∧ w' = w := by
  intro f
  induction f with
  | zero => intro w i j h; simp [wfS] at h
  | succ f ih0 =>
    intro w i j h
    have IH := hide ih0
    have ES := hide (fun w i j => skipExpr_any s nv hsz f w i j)
    have hi := wfS_inX h
    have hbq := bt_eq s i hi
    have hi' : (i : Int) < (s.size : Int) := by omega
    clear ih0
    rcases wfS_letter h with hc | hc | hc | hc | hc | hc | hc | hc
    · have := wfS_inv_plain h hc
      subst this
      rcases hc with hc | hc
      all_goals
        rw [hc] at hbq
        clear h hc
        go_enter Tryz.func33, Tryz.ntmps33
        go_wp2_with fail
        go_ret
        exact ⟨by go_num, rfl⟩
    · obtain ⟨k, e1, e2⟩ := wfS_inv_seq h hc
      have E1 := hide e1
      have E2 := hide e2
      rcases hc with hc | hc
      all_goals
        rw [hc] at hbq
        clear h hc e1 e2
        go_enter Tryz.func33, Tryz.ntmps33
        go_wp2_with fail
        rw [show (i : Int) + 1 = ((i + 1 : Nat) : Int) by omega]
        refine (unhide IH _ _ _ (unhide E1)).mono ?_
        rintro e w' ⟨rfl, rfl⟩
        go_wp2_with fail
        refine (unhide IH _ _ _ (unhide E2)).mono ?_
        rintro e w' ⟨rfl, rfl⟩
        go_wp2_with fail
        go_ret
        exact ⟨rfl, rfl⟩
    · obtain ⟨_, e2⟩ := wfS_inv_eq h hc
      have E2 := hide e2
      rw [hc] at hbq
      clear h hc e2
      go_enter Tryz.func33, Tryz.ntmps33
      go_wp2_with fail
      rw [show (i : Int) + 2 = ((i + 2 : Nat) : Int) by omega]
      refine (unhide ES _ _ _ (unhide E2)).mono ?_
      rintro e w' ⟨rfl, rfl⟩
      go_wp2_with fail
      go_ret
      exact ⟨rfl, rfl⟩
    · obtain ⟨k, m, e1, e2, e3⟩ := wfS_inv_i h hc
      have E1 := hide e1
      have E2 := hide e2
      have E3 := hide e3
      rw [hc] at hbq
      clear h hc e1 e2 e3
      go_enter Tryz.func33, Tryz.ntmps33
      go_wp2_with fail
      rw [show (i : Int) + 1 = ((i + 1 : Nat) : Int) by omega]
      refine (unhide ES _ _ _ (unhide E1)).mono ?_
      rintro e w' ⟨rfl, rfl⟩
      go_wp2_with fail
      refine (unhide IH _ _ _ (unhide E2)).mono ?_
      rintro e w' ⟨rfl, rfl⟩
      go_wp2_with fail
      refine (unhide IH _ _ _ (unhide E3)).mono ?_
      rintro e w' ⟨rfl, rfl⟩
      go_wp2_with fail
      go_ret
      exact ⟨rfl, rfl⟩
    · obtain ⟨k, e1, e2⟩ := wfS_inv_w h hc
      have E1 := hide e1
      have E2 := hide e2
      rw [hc] at hbq
      clear h hc e1 e2
      go_enter Tryz.func33, Tryz.ntmps33
      go_wp2_with fail
      rw [show (i : Int) + 1 = ((i + 1 : Nat) : Int) by omega]
      refine (unhide ES _ _ _ (unhide E1)).mono ?_
      rintro e w' ⟨rfl, rfl⟩
      go_wp2_with fail
      refine (unhide IH _ _ _ (unhide E2)).mono ?_
      rintro e w' ⟨rfl, rfl⟩
      go_wp2_with fail
      go_ret
      exact ⟨rfl, rfl⟩
    · obtain ⟨_, _, e3⟩ := wfS_inv_r h hc
      subst e3
      rw [hc] at hbq
      clear h hc
      go_enter Tryz.func33, Tryz.ntmps33
      go_wp2_with fail
      go_ret
      exact ⟨by go_num, rfl⟩
    · obtain ⟨_, e2⟩ := wfS_inv_o h hc
      have E2 := hide e2
      rw [hc] at hbq
      clear h hc e2
      go_enter Tryz.func33, Tryz.ntmps33
      go_wp2_with fail
      rw [show (i : Int) + 2 = ((i + 2 : Nat) : Int) by omega]
      refine (unhide ES _ _ _ (unhide E2)).mono ?_
      rintro e w' ⟨rfl, rfl⟩
      go_wp2_with fail
      go_ret
      exact ⟨rfl, rfl⟩
    · obtain ⟨_, e2⟩ := wfS_inv_c h hc
      subst e2
      rw [hc] at hbq
      clear h hc
      go_enter Tryz.func33, Tryz.ntmps33
      go_wp2_with fail
      go_ret
      exact ⟨by go_num, rfl⟩

end Go.Proofs.YtfcflnnleadpkaaGreat

namespace Go.Proofs.YtfcflnnleadpkaaGreat
open Go.RowKit

/-- Where a Run lies: the program, the inputs, and the world ahead of it. -/
structure REnv where
  E : Env
  rb : Nat
  gk : Nat
  ck : Nat
  gv : Nat
  cv : Nat
  iv : Value
  inp : Nat → List Nat
  w0 : World
def rnC (G : REnv) (ov : Value) (fuel calls : Nat) : Array Value :=
  #[.pointer (some ⟨G.E.pb, 0, none⟩), G.iv, .slice (some ⟨G.gk, 0, none⟩) G.E.n G.ck, sl G.E.nv G.gv G.cv, ov, .int .i64 (fuel : Int), .int .i64 (calls : Int)]
structure RSep (G : REnv) : Prop where
  b1 : G.w0.heap.size ≤ G.rb
  b2 : G.w0.heap.size ≤ G.gk
  b3 : 0 < G.E.nv → G.w0.heap.size ≤ G.gv ∧ G.gv ≠ G.gk
structure RAt (G : REnv) (w : World) (ov : Value) (st : RS) (k : Nat) : Prop where
  rn : w.heap[G.rb]? = some (.cells (rnC G ov st.fuel k) 81 (0, 0))
  tk : Rw w G.gk G.E.n (lv st.tk)
  va : Rw w G.gv G.E.nv (lv st.V)
  out : w.ownsRow G.w0.heap.size 84 2 ov st.out.length (evC st.out)
  bel : Below G.w0.heap.size G.w0 w

section
variable {G : REnv} {w w' w1 wa : World} {ov : Value} {st : RS} {k : Nat}
theorem RAt.drewN (h : RAt G w ov st k) (q : Nat) : RAt G (w.drewN q) ov st k := ⟨h.rn, h.tk, h.va, h.out, below_drewN2 h.bel q⟩
theorem RAt.c0 (h : RAt G w ov st k) : w.cell? ⟨G.rb, 0, none⟩ = some (.pointer (some ⟨G.E.pb, 0, none⟩)) := by rw [cell_of_row w _ 0 _ _ _ h.rn]; rfl
theorem RAt.c1 (h : RAt G w ov st k) : w.cell? ⟨G.rb, 1, none⟩ = some G.iv := by rw [cell_of_row w _ 1 _ _ _ h.rn]; rfl
theorem RAt.c2 (h : RAt G w ov st k) : w.cell? ⟨G.rb, 2, none⟩ = some (.slice (some ⟨G.gk, 0, none⟩) G.E.n G.ck) := by rw [cell_of_row w _ 2 _ _ _ h.rn]; rfl
theorem RAt.c3 (h : RAt G w ov st k) : w.cell? ⟨G.rb, 3, none⟩ = some (sl G.E.nv G.gv G.cv) := by rw [cell_of_row w _ 3 _ _ _ h.rn]; rfl
theorem RAt.c4 (h : RAt G w ov st k) : w.cell? ⟨G.rb, 4, none⟩ = some ov := by rw [cell_of_row w _ 4 _ _ _ h.rn]; rfl
theorem RAt.c5 (h : RAt G w ov st k) : w.cell? ⟨G.rb, 5, none⟩ = some (.int .i64 (st.fuel : Int)) := by rw [cell_of_row w _ 5 _ _ _ h.rn]; rfl
theorem RAt.c6 (h : RAt G w ov st k) : w.cell? ⟨G.rb, 6, none⟩ = some (.int .i64 (k : Int)) := by rw [cell_of_row w _ 6 _ _ _ h.rn]; rfl
theorem RAt.fz (h : RAt G w ov st k) (j : Nat) : w.frozen? ⟨G.rb, j, none⟩ = false := frozen_of_row w _ j _ _ h.rn
theorem RAt.ob (h : RAt G w ov st k) {g : Nat} (hg : ov.ownBlock = some g) : G.w0.heap.size ≤ g ∧ g < w.heap.size := h.out.lt g hg
theorem RAt.ot (h : RAt G w ov st k) {g : Nat} (hg : ov.ownBlock = some g) : ∃ cur, w.heap[g]? = some (.cells cur 84 (0, 0)) := by
  rcases h.out.2 with ⟨e, _⟩ | ⟨g', cap, cur, e, _, hc, _⟩
  · rw [e] at hg; cases hg
  · rw [e] at hg
    simp [Value.ownBlock] at hg
    subst hg
    exact ⟨cur, hc⟩

/-- A cell of the Run turned. -/
theorem RAt.setR (S : RSep G) (h : RAt G w ov st k) (hn : 1 ≤ G.E.n) {j : Nat} {v : Value} {f k' : Nat} (he : (rnC G ov st.fuel k).setIfInBounds j v = rnC G ov f k') : RAt G (w.setCell ⟨G.rb, j, none⟩ v) ov { st with fuel := f } k' := by
  have ho : ∀ b, b ≠ G.rb → (w.setCell ⟨G.rb, j, none⟩ v).heap[b]? = w.heap[b]? := fun b hb => Below.heap_setCell w _ _ b hb
  obtain ⟨tc, ht, _⟩ := h.tk (by omega)
  refine ⟨?_, h.tk.of (fun _ => ho _ (ne_of_types ht h.rn (by decide))), h.va.of (fun hv => ?_), ownsRow_keep2 h.out (fun g hg => ?_), h.bel.trans ⟨rfl, rfl, rfl, by simp [World.setCell], fun b hb => ho b (by have := S.b1; omega)⟩⟩
  · rw [setCell_eq_setRow w G.rb j _ _ _ _ h.rn, he]; exact setRow_heap w G.rb _ _ _ _ h.rn
  · obtain ⟨vc, hvc, _⟩ := h.va hv
    exact ho _ (ne_of_types hvc h.rn (by decide))
  · obtain ⟨cur, hc⟩ := h.ot hg
    exact ho _ (ne_of_types hc h.rn (by decide))
theorem RAt.setV (S : RSep G) (h : RAt G w ov st k) {v x : Nat} (hv : v < G.E.nv) : RAt G (w.setCell ⟨G.gv, v, none⟩ (.int .i64 (x : Int))) ov { st with V := setF st.V v x } k := by
  have ho : ∀ b, b ≠ G.gv → (w.setCell ⟨G.gv, v, none⟩ (.int .i64 (x : Int))).heap[b]? = w.heap[b]? := fun b hb => Below.heap_setCell w _ _ b hb
  obtain ⟨vc, hvc, _⟩ := h.va (by omega)
  have hb3 := S.b3 (by omega)
  refine ⟨(ho _ (ne_of_types h.rn hvc (by decide))).trans h.rn, h.tk.of (fun _ => ho _ (fun e => hb3.2 e.symm)), ?_, ownsRow_keep2 h.out (fun g hg => ?_), h.bel.trans ⟨rfl, rfl, rfl, by simp [World.setCell], fun b hb => ho b (by omega)⟩⟩
  · have h2 := h.va.set v (x : Int)
    rw [lv_set] at h2
    exact h2
  · obtain ⟨cur, hc⟩ := h.ot hg
    exact ho _ (ne_of_types hc hvc (by decide))
theorem RAt.setTk (S : RSep G) (h : RAt G w ov st k) (hn : 1 ≤ G.E.n) {v x : Nat} : RAt G (w.setCell ⟨G.gk, v, none⟩ (.int .i64 (x : Int))) ov { st with tk := setF st.tk v x } k := by
  have ho : ∀ b, b ≠ G.gk → (w.setCell ⟨G.gk, v, none⟩ (.int .i64 (x : Int))).heap[b]? = w.heap[b]? := fun b hb => Below.heap_setCell w _ _ b hb
  obtain ⟨tc, ht, _⟩ := h.tk (by omega)
  refine ⟨(ho _ (ne_of_types h.rn ht (by decide))).trans h.rn, ?_, h.va.of (fun hv => ho _ (S.b3 hv).2), ownsRow_keep2 h.out (fun g hg => ?_), h.bel.trans ⟨rfl, rfl, rfl, by simp [World.setCell], fun b hb => ho b (by have := S.b2; omega)⟩⟩
  · have h2 := h.tk.set v (x : Int)
    rw [lv_set] at h2
    exact h2
  · obtain ⟨cur, hc⟩ := h.ot hg
    exact ho _ (ne_of_types hc ht (by decide))
/-- One event more. -/
theorem RAt.push {gg cap d x : Nat} (S : RSep G) (h : RAt G w ov st k) (hn : 1 ≤ G.E.n) (hwa : wa.heap.size = w.heap.size + 1) (hab : Below w.heap.size w wa)
    (hown1 : w1.ownsRow G.w0.heap.size 84 2 (.slice (some ⟨gg, 0, none⟩) (st.out.length + 1) cap) (st.out.length + 1) (evC st.out ++ [.int .i64 (d : Int), .int .i64 (x : Int)]))
    (hgrow : wa.grownBy w1 ov.ownBlock) :
    RAt G (w1.setCell ⟨G.rb, 4, none⟩ (.slice (some ⟨gg, 0, none⟩) (st.out.length + 1) cap)) (.slice (some ⟨gg, 0, none⟩) (st.out.length + 1) cap) { st with out := st.out ++ [(d, x)] } k := by
  have hrb : G.rb < w.heap.size := (Array.getElem?_eq_some_iff.1 h.rn).1
  have hold : ∀ (b : Nat) (ty : TypeId) (cs : Array Value), w.heap[b]? = some (Obj.cells cs ty (0, 0)) → ty ≠ 84 → w1.heap[b]? = w.heap[b]? := by
    intro b ty cs hb hne
    have hlt : b < w.heap.size := (Array.getElem?_eq_some_iff.1 hb).1
    refine (hgrow.block b (by omega) (fun e => ?_)).trans (hab.block b hlt)
    obtain ⟨cur, hc⟩ := h.ot e.symm
    rw [hb] at hc
    injection hc with hc
    injection hc with _ hc _
    exact hne hc
  have hr1 : w1.heap[G.rb]? = some (.cells (rnC G ov st.fuel k) 81 (0, 0)) := (hold _ _ _ h.rn (by decide)).trans h.rn
  have hset : w1.setCell ⟨G.rb, 4, none⟩ (.slice (some ⟨gg, 0, none⟩) (st.out.length + 1) cap) = w1.setRow G.rb (rnC G (.slice (some ⟨gg, 0, none⟩) (st.out.length + 1) cap) st.fuel k) := by
    rw [setCell_eq_setRow w1 G.rb _ _ _ _ _ hr1]; rfl
  rw [hset]
  have ho : ∀ b, b ≠ G.rb → (w1.setRow G.rb (rnC G (.slice (some ⟨gg, 0, none⟩) (st.out.length + 1) cap) st.fuel k)).heap[b]? = w1.heap[b]? := fun b hb => setRow_other w1 G.rb b _ hb
  obtain ⟨tc, ht, _⟩ := h.tk (by omega)
  refine ⟨setRow_heap w1 G.rb _ _ _ _ hr1, h.tk.of (fun _ => (ho _ (ne_of_types ht h.rn (by decide))).trans (hold _ _ _ ht (by decide))), h.va.of (fun hv => ?_), ?_, ?_⟩
  · obtain ⟨vc, hvc, _⟩ := h.va hv
    exact (ho _ (ne_of_types hvc h.rn (by decide))).trans (hold _ _ _ hvc (by decide))
  · have e : evC (st.out ++ [(d, x)]) = evC st.out ++ [.int .i64 (d : Int), .int .i64 (x : Int)] := by rw [evC_app]; rfl
    show World.ownsRow _ _ _ _ _ (st.out ++ [(d, x)]).length (evC (st.out ++ [(d, x)]))
    rw [e, List.length_append]
    refine ownsRow_keep2 hown1 (fun g hg => ?_)
    simp [Value.ownBlock] at hg
    subst hg
    rcases hown1.2 with ⟨e2, _⟩ | ⟨g', cap', cur, e2, _, hc, _⟩
    · cases e2
    · injection e2 with e2 _ _
      injection e2 with e2
      injection e2 with e2 _ _
      subst e2
      exact ho _ (ne_of_types hc hr1 (by decide))
  · refine h.bel.trans ⟨hgrow.os.trans hab.os, hgrow.tape.trans hab.tape, hgrow.output.trans hab.output, ?_, fun b hb => ?_⟩
    · have := hgrow.size
      simp
      omega
    · have hlt : b < w.heap.size := by have := h.bel.size; omega
      refine (ho b (by have := S.b1; omega)).trans ((hgrow.block b (by omega) (fun e => ?_)).trans (hab.block b hlt))
      have := (h.ob e.symm).1
      omega
end

end Go.Proofs.YtfcflnnleadpkaaGreat

namespace Go.Proofs.YtfcflnnleadpkaaGreat
open Go.RowKit

theorem Pg.cS {E : Env} {w : World} (h : Pg E w) : w.cell? ⟨E.pb, 1, none⟩ = some (.string E.s) := by rw [cell_of_row w _ 1 _ _ _ h.pg]; rfl
theorem Pg.cM {E : Env} {w : World} (h : Pg E w) : w.cell? ⟨E.pb, 2, none⟩ = some (.int .i64 (E.main : Int)) := by rw [cell_of_row w _ 2 _ _ _ h.pg]; rfl
variable {G : REnv}

set_option maxHeartbeats 1600000 in
set_option maxRecDepth 10000 in
theorem rexpr_any (hn1 : 1 ≤ G.E.n) (hs : G.E.s.size ≤ 300) (hnv : G.E.nv ≤ 8) (HP : Pg G.E G.w0) : ∀ (f : Nat) (w : World) (ov : Value) (st : RS) (k i j : Nat), RAt G w ov st k → (∀ v, st.V v < 65536) → scE (bt G.E.s) G.E.nv f i = (j, false) →
    Calls Tryz.prog 69 #[.pointer (some ⟨G.rb, 0, none⟩), .int .i64 (i : Int)] w fun e w' => e = .returned (tupV (evE (bt G.E.s) st.V f i)) ∧ ∃ q, w' = w.drewN q := by
  intro f
  induction f with
  | zero => intro w ov st k i j _ _ h; simp [scE] at h
  | succ f ih0 =>
    intro w ov st k i j h hV hsc
    have IH := hide ih0
    clear ih0
    have HH := hide h
    have P := HP.below hn1 h.bel
    have k0 := h.c0
    have kS := P.cS
    have HVV := hide hV
    clear P
    have ⟨hb0, hb1⟩ := bt_bd G.E.s i
    cases ho : isOp (bt G.E.s i)
    · obtain ⟨rfl, h2⟩ := scE_inv_leaf hsc ho
      clear hsc
      rcases h2 with h2 | ⟨h2, h3⟩
      · have hi := isDB_lt h2
        have hbq := bt_eq G.E.s i hi
        have hi' : (i : Int) < (G.E.s.size : Int) := by omega
        have HE := hide (evE_dig (U := st.V) (f := f) ho h2)
        have HD := hide (show dgt (bt G.E.s i) 10 = bt G.E.s i - 48 by unfold dgt; rw [h2]; rfl)
        have hge : decide (0 ≤ bt G.E.s i - 48) = true := by have := (isDB_iff _ _).1 h2; simp; omega
        have h48 : 48 ≤ bt G.E.s i := ((isDB_iff _ _).1 h2).1
        clear h2 h hV
        go_enter Tryz.func69, Tryz.ntmps69
        go_wp2_with fail
        refine (op_any _ _).mono ?_
        rintro e w' ⟨rfl, rfl⟩
        rw [ho]
        go_wp2_with fail
        refine (digit_any _ _ _ hb0 hb1).mono ?_
        rintro e w' ⟨rfl, rfl⟩
        rw [unhide HD]
        go_wp2_with fail
        go_ret2
        refine ⟨?_, 0, rfl⟩
        rw [unhide HE]
        simp only [tupV]
        go_num
      · have hi := isVar_lt h3
        have hbq := bt_eq G.E.s i hi
        have hi' : (i : Int) < (G.E.s.size : Int) := by omega
        have HE := hide (evE_var (U := st.V) (f := f) ho h2)
        have HD := hide (show dgt (bt G.E.s i) 10 = -1 by unfold dgt; rw [h2]; rfl)
        obtain ⟨v, hv, hvn⟩ := isVar_nat h3
        have kv := h.c3
        rw [sl_pos (by omega)] at kv
        have v1 : w.cell? ⟨G.gv, v, none⟩ = some (.int .i64 (st.V v : Int)) := h.va.cell hvn
        have hv' : (v : Int) < (G.E.nv : Int) := by omega
        have hwk : IntKind.i64.wrap (bt G.E.s i - 97) = (v : Int) := by rw [hv]; exact wrap_i64_id _ (by omega) (by omega)
        have HK := hide (show (bt G.E.s i - 97).toNat = v by omega)
        clear h2 h3 hv h hV
        go_enter Tryz.func69, Tryz.ntmps69
        go_wp2_with fail
        refine (op_any _ _).mono ?_
        rintro e w' ⟨rfl, rfl⟩
        rw [ho]
        go_wp2_with fail
        refine (digit_any _ _ _ hb0 hb1).mono ?_
        rintro e w' ⟨rfl, rfl⟩
        rw [unhide HD]
        go_wp2_with fail
        go_ret2
        refine ⟨?_, 0, rfl⟩
        rw [unhide HE, unhide HK]
        rfl
    · obtain ⟨m, e1, e2⟩ := scE_inv_op hsc ho
      have hi := isOp_lt ho
      have hbq := bt_eq G.E.s i hi
      have hi' : (i : Int) < (G.E.s.size : Int) := by omega
      have HE := hide (evE_op (U := st.V) (f := f) ho)
      have E1 := hide e1
      have E2 := hide e2
      have HSK := hide (skE_of f (i + 1) m f e1 (Nat.le_refl _))
      rw [unhide HSK] at HE
      have HLA := hide (fun y => evE_lt (c := bt G.E.s) hV f (i + 1) y)
      have HLB := hide (fun y => evE_lt (c := bt G.E.s) hV f m y)
      have HFIVE := hide (isOp_five ho)
      clear hsc e1 e2 h hV
      obtain ⟨xa, HXA⟩ : ∃ xa, Hid (evE (bt G.E.s) st.V f (i + 1) = xa) := ⟨_, rfl⟩
      obtain ⟨xb, HXB⟩ : ∃ xb, Hid (evE (bt G.E.s) st.V f m = xb) := ⟨_, rfl⟩
      rw [unhide HXA, unhide HXB] at HE
      rw [unhide HXA] at HLA
      rw [unhide HXB] at HLB
      cases xa with
      | none =>
        have HE2 := hide (show evE (bt G.E.s) st.V (f + 1) i = none from unhide HE)
        go_enter Tryz.func69, Tryz.ntmps69
        go_wp2_with fail
        refine (op_any _ _).mono ?_
        rintro e w' ⟨rfl, rfl⟩
        rw [ho]
        go_wp2_with fail
        rw [show (i : Int) + 1 = ((i + 1 : Nat) : Int) by omega]
        refine (unhide IH _ _ _ _ _ _ (unhide HH) (unhide HVV) (unhide E1)).mono ?_
        rintro e w1 ⟨rfl, q1, rfl⟩
        rw [unhide HXA]
        simp only [tupV]
        go_wp2_with fail
        go_ret2
        exact ⟨by rw [unhide HE2]; rfl, q1, rfl⟩
      | some a =>
        have ha := unhide HLA a rfl
        cases xb with
        | none =>
          have HE2 := hide (show evE (bt G.E.s) st.V (f + 1) i = none from unhide HE)
          go_enter Tryz.func69, Tryz.ntmps69
          go_wp2_with fail
          refine (op_any _ _).mono ?_
          rintro e w' ⟨rfl, rfl⟩
          rw [ho]
          go_wp2_with fail
          rw [show (i : Int) + 1 = ((i + 1 : Nat) : Int) by omega]
          refine (unhide IH _ _ _ _ _ _ (unhide HH) (unhide HVV) (unhide E1)).mono ?_
          rintro e w1 ⟨rfl, q1, rfl⟩
          rw [unhide HXA]
          simp only [tupV]
          go_wp2_with fail
          rw [show (i : Int) + 1 = ((i + 1 : Nat) : Int) by omega]
          refine (skipExpr_any G.E.s G.E.nv hs f _ _ _ (unhide E1)).mono ?_
          rintro e w' ⟨rfl, rfl⟩
          go_wp2_with fail
          refine (unhide IH _ _ _ _ _ _ ((unhide HH).drewN q1) (unhide HVV) (unhide E2)).mono ?_
          rintro e w2 ⟨rfl, q2, rfl⟩
          rw [unhide HXB]
          simp only [tupV]
          go_wp2_with fail
          go_ret2
          exact ⟨by rw [unhide HE2]; rfl, q1 + q2, rfl⟩
        | some b =>
          have hb := unhide HLB b rfl
          have HE2 := hide (show evE (bt G.E.s) st.V (f + 1) i = opV (bt G.E.s i) a b from unhide HE)
          obtain ⟨cc, HCC⟩ : ∃ cc, Hid (bt G.E.s i = cc) := ⟨_, rfl⟩
          rw [unhide HCC] at HE2 HFIVE
          go_enter Tryz.func69, Tryz.ntmps69
          go_wp2_with fail
          refine (op_any _ _).mono ?_
          rintro e w' ⟨rfl, rfl⟩
          rw [ho]
          go_wp2_with fail
          rw [show (i : Int) + 1 = ((i + 1 : Nat) : Int) by omega]
          refine (unhide IH _ _ _ _ _ _ (unhide HH) (unhide HVV) (unhide E1)).mono ?_
          rintro e w1 ⟨rfl, q1, rfl⟩
          rw [unhide HXA]
          simp only [tupV]
          go_wp2_with fail
          rw [show (i : Int) + 1 = ((i + 1 : Nat) : Int) by omega]
          refine (skipExpr_any G.E.s G.E.nv hs f _ _ _ (unhide E1)).mono ?_
          rintro e w' ⟨rfl, rfl⟩
          go_wp2_with fail
          refine (unhide IH _ _ _ _ _ _ ((unhide HH).drewN q1) (unhide HVV) (unhide E2)).mono ?_
          rintro e w2 ⟨rfl, q2, rfl⟩
          rw [unhide HXB]
          simp only [tupV]
          rw [unhide HCC]
          clear hbq ho hb0 hb1
          rcases unhide HFIVE with h5 | h5 | h5 | h5 | h5 <;> subst h5
          · have hm : ((a : Int) + (b : Int)).tmod 65536 = (((a + b) % 65536 : Nat) : Int) := by rw [show (a : Int) + (b : Int) = ((a + b : Nat) : Int) by omega]; exact tmod_nat _
            go_wp2_with fail
            go_ret2
            exact ⟨by rw [unhide HE2, opV_add]; rfl, q1 + q2, rfl⟩
          · have hm : ((a : Int) - (b : Int) + 65536).tmod 65536 = (((a + 65536 - b) % 65536 : Nat) : Int) := by rw [show (a : Int) - (b : Int) + 65536 = ((a + 65536 - b : Nat) : Int) by omega]; exact tmod_nat _
            go_wp2_with fail
            go_ret2
            exact ⟨by rw [unhide HE2, opV_sub]; rfl, q1 + q2, rfl⟩
          · obtain ⟨ab, hab⟩ : ∃ ab, a * b = ab := ⟨_, rfl⟩
            have hmul : ab < 4294967296 := by
              have : a * b ≤ 65535 * 65535 := Nat.mul_le_mul (by omega) (by omega)
              omega
            have hcast : (a : Int) * (b : Int) = (ab : Int) := by rw [← hab]; simp
            have hm : ((ab : Int)).tmod 65536 = ((ab % 65536 : Nat) : Int) := tmod_nat _
            have HX : Hid (opV 42 a b = some (ab % 65536)) := by rw [← hab]; exact opV_mul
            clear hab
            go_wp2_with fail
            go_ret2
            exact ⟨by rw [unhide HE2, unhide HX]; rfl, q1 + q2, rfl⟩
          · by_cases hbz : b = 0
            · subst hbz
              go_wp2_with fail
              go_ret2
              exact ⟨by rw [unhide HE2, opV_div0]; rfl, q1 + q2, rfl⟩
            · have hbz' : decide ((b : Int) = 0) = false := by simp; omega
              have hbz2 : (b : Int) ≠ 0 := by omega
              have hq : wrap64 ((a : Int) / (b : Int)) = ((a / b : Nat) : Int) := by
                have h1 : (a : Int) / (b : Int) = ((a / b : Nat) : Int) := by simp
                have h2 := Nat.div_le_self a b
                rw [h1]
                generalize a / b = c at *
                unfold wrap64
                omega
              have HX : Hid (opV 47 a b = some (a / b)) := opV_div hbz
              go_wp2_with fail
              go_ret2
              exact ⟨by rw [unhide HE2, unhide HX]; rfl, q1 + q2, rfl⟩
          · by_cases hlt : a < b
            · have hlt' : (a : Int) < (b : Int) := by omega
              go_wp2_with fail
              go_ret2
              exact ⟨by rw [unhide HE2, opV_lt1 hlt]; rfl, q1 + q2, rfl⟩
            · have hlt' : decide ((a : Int) < (b : Int)) = false := by simp; omega
              go_wp2_with fail
              go_ret2
              exact ⟨by rw [unhide HE2, opV_lt0 hlt]; rfl, q1 + q2, rfl⟩

end Go.Proofs.YtfcflnnleadpkaaGreat

namespace Go.Proofs.YtfcflnnleadpkaaGreat
open Go.RowKit

set_option maxHeartbeats 400000 in
theorem Modulo_any (w : World) (x : Int) : Calls Tryz.prog 70 #[.int .i64 x] w fun e w' => e = .returned (.int .i64 (mdV x : Int)) ∧ w' = w := by
  have HC := hide (mdV_eq x)
  have hb : x % 65536 < 65536 := by omega
  have hb0 : 0 ≤ x % 65536 := by omega
  by_cases h : x.tmod 65536 < 0
  · have hm := mod_neg h
    have HM := hide hm
    have h' : decide (x.tmod 65536 < 0) = true := by simpa using h
    obtain ⟨y, hy⟩ : ∃ y, x.tmod 65536 = y := ⟨_, rfl⟩
    rw [hy] at h h' HM
    have h1 : -65536 ≤ y := by have := unhide HM; omega
    clear hm
    go_enter Tryz.func70, Tryz.ntmps70
    go_wp2_with fail
    go_ret
    exact ⟨by rw [unhide HC, ← unhide HM]; rfl, rfl⟩
  · have hm := mod_pos h
    have h' : decide (x % 65536 < 0) = false := by simp; omega
    go_enter Tryz.func70, Tryz.ntmps70
    go_wp2_with fail
    go_ret
    exact ⟨by rw [unhide HC]; rfl, rfl⟩

/-- What stays true throughout a run. -/
structure RK (G : REnv) (F : Nat) : Prop where
  n1 : 1 ≤ G.E.n
  n8 : G.E.n ≤ 8
  sz : G.E.s.size ≤ 300
  nv : G.E.nv ≤ 8
  np : G.E.np ≤ 4
  P : Pg G.E G.w0
  S : RSep G
  I : InpR G.w0 G.iv G.E.n G.inp
  Q : Parts G.E F
  ib : ∀ d, G.E.n ≤ d → G.inp d = []
def exR (G : REnv) (F g i k : Nat) (st : RS) : RS × Nat := exS (bt G.E.s) G.inp (fun k => (G.E.P k).toNat) F g i k st
/-- A statement is run as it should be. -/
def ROk (G : REnv) (F g : Nat) : Prop := ∀ (w : World) (ov : Value) (st : RS) (k i j f : Nat), RAt G w ov st k → RunI G.E.n st → wf0 G.E f i = (j, false) → f ≤ F → st.fuel ≤ g → k ≤ 8 →
    Calls Tryz.prog 18 #[.pointer (some ⟨G.rb, 0, none⟩), .int .i64 (i : Int)] w fun e w' => e = .returned (.int .i64 ((exR G F g i k st).2 : Int)) ∧ ∃ ov', RAt G w' ov' (exR G F g i k st).1 k
variable {G : REnv} {F : Nat} {w : World} {ov : Value} {st : RS} {k : Nat}

set_option maxHeartbeats 1600000 in
set_option maxRecDepth 10000 in
theorem take_any (K : RK G F) (h : RAt G w ov st k) (hi : RunI G.E.n st) {d v : Nat} (hd : d < G.E.n) (hv : v < G.E.nv) :
    Calls Tryz.prog 37 #[.pointer (some ⟨G.rb, 0, none⟩), .int .i64 (d : Int), .int .i64 (v : Int)] w fun e w' => e = .returned (.int .i64 ((rdW st d v ((G.inp d)[st.tk d]?)).2 : Int)) ∧ ∃ ov', RAt G w' ov' (rdW st d v ((G.inp d)[st.tk d]?)).1 k := by
  have HH := hide h
  have k1 := h.c1
  have k2 := h.c2
  have k3 := h.c3
  rw [sl_pos (by omega)] at k3
  have t1 : w.cell? ⟨G.gk, d, none⟩ = some (.int .i64 (st.tk d : Int)) := h.tk.cell hd
  have z1 := h.tk.fz (by omega) d
  have z2 := h.va.fz (by omega) v
  have htk : st.tk d ≤ 10000 := by have := hi.tk d; omega
  have hd' : (d : Int) < (G.E.n : Int) := by omega
  have hv' : (v : Int) < (G.E.nv : Int) := by omega
  obtain ⟨a, len, cap, hiv, hin⟩ := K.I.below h.bel
  rw [hiv] at k1
  have HIN := hide hin
  clear hin h hi hiv
  by_cases hl : d < len
  · obtain ⟨ad, ra, rl, rc, Z, rfl, c1, c2, e2⟩ := (unhide HIN d hd).1 hl
    have HC2 := hide c2
    have hl' : decide ((len : Int) ≤ (d : Int)) = false := by simp; omega
    have hl2 : (d : Int) < (len : Int) := by omega
    by_cases ht : st.tk d < rl
    · obtain ⟨rad, rfl, c3⟩ := c2 (st.tk d) ht
      have ht' : decide ((rl : Int) ≤ (st.tk d : Int)) = false := by simp; omega
      have ht2 : (st.tk d : Int) < (rl : Int) := by omega
      have HE := hide (show rdW st d v ((G.inp d)[st.tk d]?) = ({ st with V := setF st.V v (Z (st.tk d) % 65536).toNat, tk := setF st.tk d (st.tk d + 1) }, 1) by
        rw [e2, List.getElem?_map, List.getElem?_range ht]; rfl)
      clear c2 e2
      rw [unhide HE]
      go_enter Tryz.func37, Tryz.ntmps37
      go_wp2_with fail
      go_quiet (fail)
      obtain ⟨W, HW⟩ : ∃ W, Hid (w.drewN nq = W) := ⟨_, rfl⟩
      rw [unhide HW]
      have HHW : Hid (RAt G W ov st k) := by rw [← unhide HW]; exact (unhide HH).drewN nq
      have k1W : W.cell? ⟨G.rb, 1, none⟩ = some (.slice (some ad) len cap) := by rw [← unhide HW]; exact k1
      have k2W : W.cell? ⟨G.rb, 2, none⟩ = some (.slice (some ⟨G.gk, 0, none⟩) G.E.n G.ck) := by rw [← unhide HW]; exact k2
      have k3W : W.cell? ⟨G.rb, 3, none⟩ = some (.slice (some ⟨G.gv, 0, none⟩) G.E.nv G.cv) := by rw [← unhide HW]; exact k3
      have t1W : W.cell? ⟨G.gk, d, none⟩ = some (.int .i64 (st.tk d : Int)) := by rw [← unhide HW]; exact t1
      have c1W : W.cell? (ad.add d) = some (.slice (some rad) rl rc) := by rw [← unhide HW]; exact c1
      have c3W : W.cell? (rad.add (st.tk d)) = some (.int .i64 (Z (st.tk d))) := by rw [← unhide HW]; exact c3
      have z1W : W.frozen? ⟨G.gk, d, none⟩ = false := by rw [← unhide HW]; exact z1
      have z2W : W.frozen? ⟨G.gv, v, none⟩ = false := by rw [← unhide HW]; exact z2
      clear k1 k2 k3 t1 c1 c3 z1 z2
      have v1W : W.cell? ⟨G.gv, v, none⟩ = some (.int .i64 (st.V v : Int)) := (unhide HHW).va.cell hv
      have hne1 : G.rb ≠ G.gk := by
        obtain ⟨tc, ht, _⟩ := (unhide HHW).tk (by omega)
        exact ne_of_types (unhide HHW).rn ht (by decide)
      have hne2 : G.gv ≠ G.gk := (K.S.b3 (by omega)).2
      have HA1 : ∀ q, Hid (RAt G (((W.drewN q).setCell ⟨G.gk, d, none⟩ (.int .i64 ((st.tk d : Int) + 1))).setCell ⟨G.gv, v, none⟩ (.int .i64 (mdV (Z (st.tk d)) : Int))) ov { st with V := setF st.V v (mdV (Z (st.tk d))), tk := setF st.tk d (st.tk d + 1) } k) :=
        fun q => hide (((((unhide HHW).drewN q).setTk K.S K.n1 (v := d) (x := st.tk d + 1))).setV K.S hv)
      have HA2 := hide HA1
      clear HA1
      go_wp2_with fail
      go_quiet ((go_at_call 70; exact Calls.quiet_of_same (Modulo_any _ _)))
      go_wp2_with fail
      go_ret
      exact ⟨rfl, ov, unhide (unhide HA2 _)⟩
    · have ht' : decide ((rl : Int) ≤ (st.tk d : Int)) = true := by simp; omega
      have HE := hide (show rdW st d v ((G.inp d)[st.tk d]?) = (st, 2) by rw [e2, List.getElem?_eq_none (by simp; omega)]; rfl)
      clear c2 e2
      rw [unhide HE]
      go_enter Tryz.func37, Tryz.ntmps37
      go_wp2_with fail
      go_quiet (fail)
      go_wp2_with fail
      go_ret
      exact ⟨rfl, ov, (unhide HH).drewN _⟩
  · have hl' : decide ((len : Int) ≤ (d : Int)) = true := by simp; omega
    have HE := hide (show rdW st d v ((G.inp d)[st.tk d]?) = (st, 2) by rw [(unhide HIN d hd).2 (by omega)]; rfl)
    rw [unhide HE]
    go_enter Tryz.func37, Tryz.ntmps37
    go_wp2_with fail
    go_quiet (fail)
    go_wp2_with fail
    go_ret
    exact ⟨rfl, ov, (unhide HH).drewN _⟩

end Go.Proofs.YtfcflnnleadpkaaGreat

namespace Go.Proofs.YtfcflnnleadpkaaGreat
open Go.RowKit

variable {G : REnv} {F : Nat} {w : World} {ov : Value} {st : RS} {k : Nat}

theorem RK.inp (K : RK G F) : ∀ d x, x ∈ G.inp d → x < 65536 := by
  intro d x hx
  rcases Nat.lt_or_ge d G.E.n with hd | hd
  · exact K.I.lt d hd x hx
  · rw [K.ib d hd] at hx; simp at hx
theorem RunI.ex (K : RK G F) (h : RunI G.E.n st) {g f i j : Nat} (hw : wf0 G.E f i = (j, false)) (hf : f ≤ F) : RunI G.E.n (exR G F g i k st).1 := by
  refine h.of ?_ (exS_grow _ _ _ _)
  refine exS_sane (nv := G.E.nv) (np := G.E.np) K.inp (fun p hp => ?_) g f i j k st hw hf h.sane
  obtain ⟨m, j', e, hm⟩ := K.Q.proc p hp
  refine ⟨j', ?_⟩
  rw [show (G.E.P p).toNat = m by omega]
  exact hm

set_option maxHeartbeats 1600000 in
set_option maxRecDepth 10000 in
theorem simpleEq_any (K : RK G F) (h : RAt G w ov st k) (hi : RunI G.E.n st) {i j f : Nat} (hc : bt G.E.s i = 61) (hv : isVar G.E.nv (bt G.E.s (i + 1)) = true) (hs : scE (bt G.E.s) G.E.nv f (i + 2) = (j, false)) :
    Calls Tryz.prog 34 #[.pointer (some ⟨G.rb, 0, none⟩), .int .i64 (i : Int)] w fun e w' => e = .returned (.int .i64 ((setW st (bt G.E.s (i + 1) - 97).toNat (evE (bt G.E.s) st.V f (i + 2))).2 : Int)) ∧ ∃ ov', RAt G w' ov' (setW st (bt G.E.s (i + 1) - 97).toNat (evE (bt G.E.s) st.V f (i + 2))).1 k := by
  have HH := hide h
  have HV := hide hi.sane.V
  have HS := hide hs
  obtain ⟨v, ev, hvn⟩ := isVar_nat hv
  have hi1 := isVar_lt hv
  have hi0 : i < G.E.s.size := by omega
  have hb0 := bt_eq G.E.s i hi0
  have hb1 := bt_eq G.E.s (i + 1) hi1
  rw [hc] at hb0
  rw [ev]
  have hv97 : bt G.E.s (i + 1) = (v : Int) + 97 := by omega
  rw [hv97] at hb1
  have hi' : (i : Int) < (G.E.s.size : Int) := by omega
  have hi1' : (i : Int) + 1 < (G.E.s.size : Int) := by omega
  have hsz := K.sz
  have hnv8 := K.nv
  have hv' : (v : Int) < (G.E.nv : Int) := by omega
  have HP := hide (fun q => K.P.below K.n1 (h.drewN q).bel)
  clear h hi hs hv hc ev hv97
  cases he : evE (bt G.E.s) st.V f (i + 2) with
  | none =>
    have HE := hide he
    show Calls _ _ _ _ fun e w' => e = .returned (.int .i64 ((2 : Nat) : Int)) ∧ ∃ ov', RAt G w' ov' st k
    clear he
    go_enter Tryz.func34, Tryz.ntmps34
    go_wp2_with fail
    rw [show (i : Int) + 2 = ((i + 2 : Nat) : Int) by omega]
    refine (rexpr_any K.n1 K.sz K.nv K.P f _ ov st k _ j (unhide HH) (unhide HV) (unhide HS)).mono ?_
    rintro e w1 ⟨rfl, q1, rfl⟩
    rw [unhide HE]
    simp only [tupV]
    go_wp2_with fail
    go_ret
    exact ⟨rfl, ov, (unhide HH).drewN q1⟩
  | some y =>
    have HE := hide he
    show Calls _ _ _ _ fun e w' => e = .returned (.int .i64 ((1 : Nat) : Int)) ∧ ∃ ov', RAt G w' ov' { st with V := setF st.V v y } k
    clear he
    go_enter Tryz.func34, Tryz.ntmps34
    go_wp2_with fail
    rw [show (i : Int) + 2 = ((i + 2 : Nat) : Int) by omega]
    refine (rexpr_any K.n1 K.sz K.nv K.P f _ ov st k _ j (unhide HH) (unhide HV) (unhide HS)).mono ?_
    rintro e w1 ⟨rfl, q1, rfl⟩
    rw [unhide HE]
    simp only [tupV]
    obtain ⟨W, HW⟩ : ∃ W, Hid (w.drewN q1 = W) := ⟨_, rfl⟩
    rw [unhide HW]
    have HHW : Hid (RAt G W ov st k) := by rw [← unhide HW]; exact (unhide HH).drewN q1
    have p0 := (unhide HHW).c0
    have p3 := (unhide HHW).c3
    rw [sl_pos (by omega)] at p3
    have PW := K.P.below K.n1 (unhide HHW).bel
    have pS := PW.cS
    have v1 : W.cell? ⟨G.gv, v, none⟩ = some (.int .i64 (st.V v : Int)) := (unhide HHW).va.cell hvn
    have z1 := (unhide HHW).va.fz (by omega) v
    have hwk : IntKind.i64.wrap ((v : Int) + 97 - 97) = (v : Int) := by rw [show (v : Int) + 97 - 97 = (v : Int) by omega]; exact wrap_i64_id _ (by omega) (by omega)
    have HA2 := hide (fun q => ((unhide HHW).drewN q).setV K.S hvn (x := y))
    clear PW
    go_wp2_with fail
    go_region
    all_goals
      go_wp2_with fail
      go_ret
      exact ⟨rfl, ov, (((unhide HHW).setV K.S hvn).drewN 1)⟩

end Go.Proofs.YtfcflnnleadpkaaGreat

namespace Go.Proofs.YtfcflnnleadpkaaGreat
open Go.RowKit

variable {G : REnv} {F : Nat} {w : World} {ov : Value} {st : RS} {k : Nat}

set_option maxHeartbeats 1600000 in
set_option maxRecDepth 10000 in
theorem branch_any (K : RK G F) {g : Nat} (IH : Hid (ROk G F g)) (h : RAt G w ov st k) (hi : RunI G.E.n st) (hg : st.fuel ≤ g) (hk : k ≤ 8) {i m q j f : Nat} (hF : f ≤ F) (e1 : scE (bt G.E.s) G.E.nv f (i + 1) = (m, false)) (e2 : wf0 G.E f m = (q, false)) (e3 : wf0 G.E f q = (j, false)) :
    Calls Tryz.prog 35 #[.pointer (some ⟨G.rb, 0, none⟩), .int .i64 (i : Int)] w fun e w' => e = .returned (.int .i64 ((ifW st (evE (bt G.E.s) st.V f (i + 1)) (exR G F g m k) (exR G F g q k)).2 : Int)) ∧ ∃ ov', RAt G w' ov' (ifW st (evE (bt G.E.s) st.V f (i + 1)) (exR G F g m k) (exR G F g q k)).1 k := by
  have HH := hide h
  have HI := hide hi
  have E1 := hide e1
  have E2 := hide e2
  have E3 := hide e3
  have hi0 : i + 1 ≤ 300 := by
    have h1 := scE_le (bt G.E.s) G.E.nv f (i + 1)
    rw [e1] at h1
    have h2 := (wfS_lt _ _ _ e2).1
    have := K.sz
    simp only at h1
    omega
  clear h hi e1 e2 e3
  cases he : evE (bt G.E.s) st.V f (i + 1) with
  | none =>
    have HE := hide he
    show Calls _ _ _ _ fun e w' => e = .returned (.int .i64 ((2 : Nat) : Int)) ∧ ∃ ov', RAt G w' ov' st k
    clear he
    go_enter Tryz.func35, Tryz.ntmps35
    go_wp2_with fail
    rw [show (i : Int) + 1 = ((i + 1 : Nat) : Int) by omega]
    refine (rexpr_any K.n1 K.sz K.nv K.P f _ ov st k _ m (unhide HH) (unhide HI).sane.V (unhide E1)).mono ?_
    rintro e w1 ⟨rfl, q1, rfl⟩
    rw [unhide HE]
    simp only [tupV]
    go_wp2_with fail
    go_ret
    exact ⟨rfl, ov, (unhide HH).drewN q1⟩
  | some y =>
    have HE := hide he
    clear he
    by_cases hy : y = 0
    · subst hy
      have HX := hide (show ifW st (some 0) (exR G F g m k) (exR G F g q k) = exR G F g q k st from rfl)
      rw [unhide HX]
      go_enter Tryz.func35, Tryz.ntmps35
      go_wp2_with fail
      rw [show (i : Int) + 1 = ((i + 1 : Nat) : Int) by omega]
      refine (rexpr_any K.n1 K.sz K.nv K.P f _ ov st k _ m (unhide HH) (unhide HI).sane.V (unhide E1)).mono ?_
      rintro e w1 ⟨rfl, q1, rfl⟩
      rw [unhide HE]
      simp only [tupV]
      have p0 := ((unhide HH).drewN q1).c0
      have pS := (K.P.below K.n1 ((unhide HH).drewN q1).bel).cS
      go_wp2_with fail
      rw [show (i : Int) + 1 = ((i + 1 : Nat) : Int) by omega]
      refine (skipExpr_any G.E.s G.E.nv K.sz f _ _ _ (unhide E1)).mono ?_
      rintro e w' ⟨rfl, rfl⟩
      go_wp2_with fail
      refine (skip_any G.E.s G.E.nv G.E.n G.E.np K.sz f _ _ _ (unhide E2)).mono ?_
      rintro e w' ⟨rfl, rfl⟩
      go_wp2_with fail
      refine (unhide IH _ ov st k q j f ((unhide HH).drewN q1) (unhide HI) (unhide E3) hF hg hk).mono ?_
      rintro e w2 ⟨rfl, ov2, hr2⟩
      have HR2 := hide hr2
      clear hr2
      go_wp2_with fail
      go_ret
      exact ⟨rfl, ov2, unhide HR2⟩
    · have HX := hide (show ifW st (some y) (exR G F g m k) (exR G F g q k) = exR G F g m k st by unfold ifW; simp only; rw [if_neg hy])
      rw [unhide HX]
      have hy' : decide ((y : Int) = 0) = false := by simp; omega
      go_enter Tryz.func35, Tryz.ntmps35
      go_wp2_with fail
      rw [show (i : Int) + 1 = ((i + 1 : Nat) : Int) by omega]
      refine (rexpr_any K.n1 K.sz K.nv K.P f _ ov st k _ m (unhide HH) (unhide HI).sane.V (unhide E1)).mono ?_
      rintro e w1 ⟨rfl, q1, rfl⟩
      rw [unhide HE]
      simp only [tupV]
      have p0 := ((unhide HH).drewN q1).c0
      have pS := (K.P.below K.n1 ((unhide HH).drewN q1).bel).cS
      go_wp2_with fail
      rw [show (i : Int) + 1 = ((i + 1 : Nat) : Int) by omega]
      refine (skipExpr_any G.E.s G.E.nv K.sz f _ _ _ (unhide E1)).mono ?_
      rintro e w' ⟨rfl, rfl⟩
      go_wp2_with fail
      refine (unhide IH _ ov st k m q f ((unhide HH).drewN q1) (unhide HI) (unhide E2) hF hg hk).mono ?_
      rintro e w2 ⟨rfl, ov2, hr2⟩
      have HR2 := hide hr2
      clear hr2
      go_wp2_with fail
      go_ret
      exact ⟨rfl, ov2, unhide HR2⟩

set_option maxHeartbeats 1600000 in
set_option maxRecDepth 10000 in
theorem rcall_any (K : RK G F) {g : Nat} (IH : Hid (ROk G F g)) (h : RAt G w ov st k) (hi : RunI G.E.n st) (hg : st.fuel ≤ g) (hk : k ≤ 8) {d : Nat} (hd : d < G.E.np) :
    Calls Tryz.prog 38 #[.pointer (some ⟨G.rb, 0, none⟩), .int .i64 (d : Int)] w fun e w' => e = .returned (.int .i64 ((if 8 ≤ k then (st, 2) else exR G F g (G.E.P d).toNat (k + 1) st).2 : Int)) ∧ ∃ ov', RAt G w' ov' (if 8 ≤ k then (st, 2) else exR G F g (G.E.P d).toNat (k + 1) st).1 k := by
  have HH := hide h
  have HI := hide hi
  have k6 := h.c6
  have z6 := h.fz 6
  obtain ⟨m, j, em, hj⟩ := K.Q.proc d hd
  have EM := hide em
  have EJ := hide hj
  by_cases h8 : 8 ≤ k
  · have h8' : decide ((8 : Int) ≤ (k : Int)) = true := by simp; omega
    rw [if_pos h8]
    clear h hi em hj
    go_enter Tryz.func38, Tryz.ntmps38
    go_wp2_with fail
    go_ret
    exact ⟨rfl, ov, unhide HH⟩
  · have h8' : decide ((8 : Int) ≤ (k : Int)) = false := by simp; omega
    rw [if_neg h8, show (G.E.P d).toNat = m by omega]
    have HUP : Hid (RAt G (w.setCell ⟨G.rb, 6, none⟩ (.int .i64 ((k : Int) + 1))) ov st (k + 1)) := hide (h.setR K.S K.n1 (f := st.fuel) (k' := k + 1) rfl)
    obtain ⟨W, HW⟩ : ∃ W, Hid (w.setCell ⟨G.rb, 6, none⟩ (.int .i64 ((k : Int) + 1)) = W) := ⟨_, rfl⟩
    rw [unhide HW] at HUP
    have PW := K.P.below K.n1 (unhide HUP).bel
    have p0 := (unhide HUP).c0
    have pP := PW.cPr
    rw [sl_pos (by omega)] at pP
    have p1 : W.cell? ⟨G.E.gp, d, none⟩ = some (.int .i64 (m : Int)) := by rw [PW.ps.cell hd, em]
    have hd' : (d : Int) < (G.E.np : Int) := by omega
    clear h hi em hj PW
    go_enter Tryz.func38, Tryz.ntmps38
    go_wp2_with (rw [unhide HW])
    refine (unhide IH W ov st (k + 1) m j F (unhide HUP) (unhide HI) (unhide EJ) (Nat.le_refl _) hg (by omega)).mono ?_
    rintro e w2 ⟨rfl, ov2, hr2⟩
    obtain ⟨r, HR⟩ : ∃ r, Hid (exR G F g m (k + 1) st = r) := ⟨_, rfl⟩
    rw [unhide HR] at hr2
    rw [unhide HR]
    obtain ⟨rs, re⟩ := r
    have y6 := hr2.c6
    have x6 := hr2.fz 6
    have hkk : ((k + 1 : Nat) : Int) = (k : Int) + 1 := by omega
    have HR2 : Hid (RAt G (w2.setCell ⟨G.rb, 6, none⟩ (.int .i64 (k : Int))) ov2 rs k) := hide (hr2.setR K.S K.n1 (f := rs.fuel) (k' := k) rfl)
    clear hr2
    rw [hkk] at y6
    go_wp2_with fail
    go_ret
    exact ⟨by rw [unhide HR]; rfl, ov2, by rw [unhide HR]; exact unhide HR2⟩

/-- Where a loop stands: what is still to be run comes to the whole. -/
def LpR (G : REnv) (F g b f i k : Nat) (A : RS × Nat) (n : Nat) (st : RS) : Prop := lpW (exR G F g b k) (fun V => evE (bt G.E.s) V f (i + 1)) n st = A

set_option maxHeartbeats 1600000 in
set_option maxRecDepth 10000 in
theorem rloop_any (K : RK G F) {g : Nat} (IH : Hid (ROk G F g)) (h : RAt G w ov st k) (hi : RunI G.E.n st) (hg : st.fuel ≤ g) (hk : k ≤ 8) {i m j f : Nat} (hF : f ≤ F) (e1 : scE (bt G.E.s) G.E.nv f (i + 1) = (m, false)) (e2 : wf0 G.E f m = (j, false)) (hi1 : i + 1 ≤ 300) :
    Calls Tryz.prog 36 #[.pointer (some ⟨G.rb, 0, none⟩), .int .i64 (i : Int)] w fun e w' => e = .returned (.int .i64 ((lpW (exR G F g m k) (fun V => evE (bt G.E.s) V f (i + 1)) g st).2 : Int)) ∧ ∃ ov', RAt G w' ov' (lpW (exR G F g m k) (fun V => evE (bt G.E.s) V f (i + 1)) g st).1 k := by
  have HH := hide h
  have HI := hide hi
  have E1 := hide e1
  have E2 := hide e2
  have p0 := h.c0
  have pS := (K.P.below K.n1 h.bel).cS
  obtain ⟨A, HA⟩ : ∃ A, Hid (lpW (exR G F g m k) (fun V => evE (bt G.E.s) V f (i + 1)) g st = A) := ⟨_, rfl⟩
  rw [unhide HA]
  have HLP : Hid (LpR G F g m f i k A g st) := hide (unhide HA)
  have hi2 := hi
  clear h hi e1 e2
  go_enter Tryz.func36, Tryz.ntmps36
  go_wp2_with fail
  rw [show (i : Int) + 1 = ((i + 1 : Nat) : Int) by omega]
  refine (skipExpr_any G.E.s G.E.nv K.sz f _ _ _ (unhide E1)).mono ?_
  rintro e w' ⟨rfl, rfl⟩
  clear p0 pS HI
  have HI2 := hide hi2
  clear hi2
  go_wp2_with fail
  go_loopg [] g (fun n wr => ∃ (sv : RS) (uv : Value), RAt G wr uv sv k ∧ RunI G.E.n sv ∧ sv.fuel ≤ n ∧ n ≤ g ∧ LpR G F g m f i k A n sv)
  case atStart => exact ⟨st, ov, unhide HH, unhide HI2, hg, Nat.le_refl _, unhide HLP⟩
  case round =>
    obtain ⟨sv, uv, hat, hin, hfu, hng, hlp⟩ := hrel
    have HAT := hide hat
    have HIN := hide hin
    have HLQ := hide hlp
    clear hat hin hlp HH HI2 HLP
    cases he : evE (bt G.E.s) sv.V f (i + 1) with
    | none =>
      have HE := hide he
      have HX := hide (show A = (sv, 2) from (unhide HLQ).symm.trans (lpW_none he))
      clear he
      go_wp2_with fail
      rw [show (i : Int) + 1 = ((i + 1 : Nat) : Int) by omega]
      refine (rexpr_any K.n1 K.sz K.nv K.P f _ uv sv k _ m (unhide HAT) (unhide HIN).sane.V (unhide E1)).mono ?_
      rintro e w1 ⟨rfl, q1, rfl⟩
      rw [unhide HE]
      simp only [tupV]
      go_wp2_with fail
      go_ret
      exact ⟨by rw [unhide HX]; rfl, uv, by rw [unhide HX]; exact (unhide HAT).drewN q1⟩
    | some y =>
      have HE := hide he
      by_cases hy : y = 0
      · subst hy
        have HX := hide (show A = (sv, 1) from (unhide HLQ).symm.trans (lpW_zero he))
        clear he
        go_wp2_with fail
        rw [show (i : Int) + 1 = ((i + 1 : Nat) : Int) by omega]
        refine (rexpr_any K.n1 K.sz K.nv K.P f _ uv sv k _ m (unhide HAT) (unhide HIN).sane.V (unhide E1)).mono ?_
        rintro e w1 ⟨rfl, q1, rfl⟩
        rw [unhide HE]
        simp only [tupV]
        go_wp2_with fail
        go_ret
        exact ⟨by rw [unhide HX]; rfl, uv, by rw [unhide HX]; exact (unhide HAT).drewN q1⟩
      · have hy' : decide ((y : Int) = 0) = false := by simp; omega
        obtain ⟨r, HR⟩ : ∃ r, Hid (exR G F g m k sv = r) := ⟨_, rfl⟩
        have HIR : Hid (RunI G.E.n r.1) := by rw [← unhide HR]; exact (unhide HIN).ex K (unhide E2) hF
        have HGR : Hid (r.1.fuel ≤ sv.fuel) := by
          rw [← unhide HR]
          exact (exS_grow (c := bt G.E.s) (inp := G.inp) (P := fun k => (G.E.P k).toNat) (F := F) g m k sv).fuel
        have HSP : Hid (sv.fuel = 0 → r.2 = 0) := by
          intro h0
          rw [← unhide HR]
          unfold exR
          rw [exS_spent h0]
        have HST : Hid (r.2 ≠ 1 → A = r) := by
          intro hr
          rw [← unhide HR] at hr ⊢
          exact (unhide HLQ).symm.trans (lpW_stop he hy hr)
        have HS0 : Hid (r.2 = 1 → r.1.fuel = 0 → A = (r.1, 0)) := by
          intro hr h0
          rw [← unhide HR] at hr h0 ⊢
          exact (unhide HLQ).symm.trans (lpW_spent he hy hr h0)
        have HGO : Hid (r.2 = 1 → r.1.fuel ≠ 0 → LpR G F g m f i k A (gk - 1) { r.1 with fuel := r.1.fuel - 1 }) := by
          intro hr h0
          have hg1 : gk ≠ 0 := by
            intro e0
            have := unhide HSP (by omega)
            omega
          obtain ⟨g', rfl⟩ : ∃ g', gk = g' + 1 := ⟨gk - 1, by omega⟩
          rw [← unhide HR] at hr h0 ⊢
          have h1 := unhide HLQ
          unfold LpR at h1 ⊢
          rw [lpW_go he hy hr h0] at h1
          exact h1
        clear he
        go_wp2_with fail
        rw [show (i : Int) + 1 = ((i + 1 : Nat) : Int) by omega]
        refine (rexpr_any K.n1 K.sz K.nv K.P f _ uv sv k _ m (unhide HAT) (unhide HIN).sane.V (unhide E1)).mono ?_
        rintro e w1 ⟨rfl, q1, rfl⟩
        rw [unhide HE]
        simp only [tupV]
        go_wp2_with fail
        refine (unhide IH _ uv sv k m j f ((unhide HAT).drewN q1) (unhide HIN) (unhide E2) hF (by omega) hk).mono ?_
        rintro e w2 ⟨rfl, ov2, hr2⟩
        rw [unhide HR] at hr2
        rw [unhide HR]
        obtain ⟨rs, re⟩ := r
        simp only at HIR HGR HSP HST HS0 HGO hr2
        have HR2 := hide hr2
        have y5 := hr2.c5
        have x5 := hr2.fz 5
        clear hr2
        by_cases hr1 : re = 1
        · subst hr1
          by_cases hf0 : rs.fuel = 0
          · have HX := hide (unhide HS0 rfl hf0)
            have hf' : decide ((rs.fuel : Int) ≤ 0) = true := by simp; omega
            rw [hf0] at y5
            go_wp2_with fail
            go_ret
            exact ⟨by rw [unhide HX]; rfl, ov2, by rw [unhide HX]; exact unhide HR2⟩
          · have hf' : decide ((rs.fuel : Int) ≤ 0) = false := by simp; omega
            have HX := hide (unhide HGO rfl hf0)
            have HR3 : Hid (RAt G (w2.setCell ⟨G.rb, 5, none⟩ (.int .i64 ((rs.fuel : Int) - 1))) ov2 { rs with fuel := rs.fuel - 1 } k) := hide ((unhide HR2).setR K.S K.n1 (f := rs.fuel - 1) (k' := k) (by rw [show ((rs.fuel : Int) - 1) = ((rs.fuel - 1 : Nat) : Int) by omega]; rfl))
            have HI3 : Hid (RunI G.E.n { rs with fuel := rs.fuel - 1 }) := hide (unhide HIR).dec
            have hgr := unhide HGR
            have hfb : rs.fuel ≤ 10000 := by have := (unhide HIR).out; omega
            go_wp2_with fail
            go_roundg (gk - 1)
            case measure =>
              have := unhide HSP
              omega
            case rel => exact ⟨_, ov2, unhide HR3, unhide HI3, by simp only; omega, by omega, unhide HX⟩
        · have HX := hide (unhide HST hr1)
          have hr1' : decide ((re : Int) = 1) = false := by simp; omega
          go_wp2_with fail
          go_ret
          exact ⟨by rw [unhide HX]; rfl, ov2, by rw [unhide HX]; exact unhide HR2⟩

end Go.Proofs.YtfcflnnleadpkaaGreat
