import Derived.Test.YtfcflnnleadpkaaTiJ
import Derived.Test.YtfcflnnleadpkaaTaJ
import Derived.Test.YtfcflnnleadpkaaTbJ
namespace Go.Proofs.Ytfcflnnleadpkaa
open Go.RowKit
variable {E : Env} {w w' w0 w1 wa : World}

theorem LI_init (w : World) : LI w (w.alloc (.cells #[.slice none 0 0, .slice none 0 0, .slice none 0 0] 100)) (.slice none 0 0) (.slice none 0 0) (.slice none 0 0) [] [] [] :=
  ⟨heap_alloc_last w _, World.ownsRow_nil _ _ _ _, World.ownsRow_nil _ _ _ _, World.ownsRow_nil _ _ _ _, Or.inl rfl, Or.inl rfl, Or.inl rfl, (Below.refl _ _).alloc (Nat.le_refl _) _⟩
def vl (E : Env) (k : Nat) : List Nat := (List.range k).map (v0 E)
def bl (b k : Nat) : List Nat := List.replicate k b
theorem vl_len (E : Env) (k : Nat) : (vl E k).length = k := by simp [vl]
theorem bl_len (b k : Nat) : (bl b k).length = k := by simp [bl]
theorem vl_succ (E : Env) (k : Nat) : vl E k ++ [v0 E k] = vl E (k + 1) := by unfold vl; rw [List.range_succ, List.map_append]; rfl
theorem bl_succ (b k : Nat) : bl b k ++ [b] = bl b (k + 1) := by unfold bl; rw [List.replicate_succ']

theorem LI.stepV {vv xv tv : Value} {X T : List Nat} {gg cap k : Nat} (h : LI w0 w vv xv tv (vl E k) X T) (hwa : wa.heap.size = w.heap.size + 1) (hab : Below w.heap.size w wa)
    (hown1 : w1.ownsRow (w0.heap.size + 1) 3 1 (.slice (some ⟨gg, 0, none⟩) (k + 1) cap) (k + 1) (cells (vl E k) ++ [.int .i64 ((v0 E k : Nat) : Int)]))
    (hgrow : wa.grownBy w1 vv.ownBlock) (hat : vv.ownBlock = some gg ∨ gg = w.heap.size + 1) :
    LI w0 (w1.setCell ⟨w0.heap.size, 0, none⟩ (.slice (some ⟨gg, 0, none⟩) (k + 1) cap)) (.slice (some ⟨gg, 0, none⟩) (k + 1) cap) xv tv (vl E (k + 1)) X T := by
  have e := vl_len E k
  have h2 := h.pushV (x := v0 E k) hwa hab (by rw [e]; exact hown1) hgrow hat
  rw [vl_succ, e] at h2
  exact h2
theorem LI.stepX {vv xv tv : Value} {V T : List Nat} {gg cap k b : Nat} (h : LI w0 w vv xv tv V (bl b k) T) (hwa : wa.heap.size = w.heap.size + 1) (hab : Below w.heap.size w wa)
    (hown1 : w1.ownsRow (w0.heap.size + 1) 3 1 (.slice (some ⟨gg, 0, none⟩) (k + 1) cap) (k + 1) (cells (bl b k) ++ [.int .i64 (b : Int)]))
    (hgrow : wa.grownBy w1 xv.ownBlock) (hat : xv.ownBlock = some gg ∨ gg = w.heap.size + 1) :
    LI w0 (w1.setCell ⟨w0.heap.size, 1, none⟩ (.slice (some ⟨gg, 0, none⟩) (k + 1) cap)) vv (.slice (some ⟨gg, 0, none⟩) (k + 1) cap) tv V (bl b (k + 1)) T := by
  have e := bl_len b k
  have h2 := h.pushX (x := b) hwa hab (by rw [e]; exact hown1) hgrow hat
  rw [bl_succ, e] at h2
  exact h2
theorem LI.stepT {vv xv tv : Value} {V X : List Nat} {gg cap k b : Nat} (h : LI w0 w vv xv tv V X (bl b k)) (hwa : wa.heap.size = w.heap.size + 1) (hab : Below w.heap.size w wa)
    (hown1 : w1.ownsRow (w0.heap.size + 1) 3 1 (.slice (some ⟨gg, 0, none⟩) (k + 1) cap) (k + 1) (cells (bl b k) ++ [.int .i64 (b : Int)]))
    (hgrow : wa.grownBy w1 tv.ownBlock) (hat : tv.ownBlock = some gg ∨ gg = w.heap.size + 1) :
    LI w0 (w1.setCell ⟨w0.heap.size, 2, none⟩ (.slice (some ⟨gg, 0, none⟩) (k + 1) cap)) vv xv (.slice (some ⟨gg, 0, none⟩) (k + 1) cap) V X (bl b (k + 1)) := by
  have e := bl_len b k
  have h2 := h.pushT (x := b) hwa hab (by rw [e]; exact hown1) hgrow hat
  rw [bl_succ, e] at h2
  exact h2
theorem LI.vrow {vv xv tv : Value} {V X T : List Nat} {k : Nat} (h : LI w0 w vv xv tv V X T) (e : V.length = k) : ∃ a cp, vv = .slice a k cp ∧ w.ownsRow (w0.heap.size + 1) 3 1 (.slice a k cp) k (cells V) ∧ some w0.heap.size ≠ (Value.slice a k cp).ownBlock := by
  obtain ⟨a, cp, rfl⟩ := ownsRow_slice h.vown
  have h1 := h.vown
  have h2 : some w0.heap.size ≠ (Value.slice a V.length cp).ownBlock := fun e => by have := (h1.lt _ e.symm).1; omega
  rw [e] at h1 h2
  exact ⟨a, cp, by rw [e], h1, h2⟩
theorem LI.xrow {vv xv tv : Value} {V X T : List Nat} {k : Nat} (h : LI w0 w vv xv tv V X T) (e : X.length = k) : ∃ a cp, xv = .slice a k cp ∧ w.ownsRow (w0.heap.size + 1) 3 1 (.slice a k cp) k (cells X) ∧ some w0.heap.size ≠ (Value.slice a k cp).ownBlock := by
  obtain ⟨a, cp, rfl⟩ := ownsRow_slice h.xown
  have h1 := h.xown
  have h2 : some w0.heap.size ≠ (Value.slice a X.length cp).ownBlock := fun e => by have := (h1.lt _ e.symm).1; omega
  rw [e] at h1 h2
  exact ⟨a, cp, by rw [e], h1, h2⟩
theorem LI.trow {vv xv tv : Value} {V X T : List Nat} {k : Nat} (h : LI w0 w vv xv tv V X T) (e : T.length = k) : ∃ a cp, tv = .slice a k cp ∧ w.ownsRow (w0.heap.size + 1) 3 1 (.slice a k cp) k (cells T) ∧ some w0.heap.size ≠ (Value.slice a k cp).ownBlock := by
  obtain ⟨a, cp, rfl⟩ := ownsRow_slice h.town
  have h1 := h.town
  have h2 : some w0.heap.size ≠ (Value.slice a T.length cp).ownBlock := fun e => by have := (h1.lt _ e.symm).1; omega
  rw [e] at h1 h2
  exact ⟨a, cp, by rw [e], h1, h2⟩
theorem far {w wa w1 : World} {row : Option Nat} {B : Nat} (hgrow : wa.grownBy w1 row) (hlt : B < w.heap.size) (hwa : wa.heap.size = w.heap.size + 1) (hab : Below w.heap.size w wa) (hne : some B ≠ row) (j : Nat) : w1.cell? ⟨B, j, none⟩ = w.cell? ⟨B, j, none⟩ ∧ w1.frozen? ⟨B, j, none⟩ = w.frozen? ⟨B, j, none⟩ :=
  ⟨(hgrow.cell_far ⟨B, j, none⟩ (by simp; omega) hne).trans (World.cell?_of_block (w := w) (a := ⟨B, j, none⟩) (hab.block B hlt)), (hgrow.frozen_far ⟨B, j, none⟩ (by simp; omega) hne).trans (World.frozen?_of_block (w := w) (a := ⟨B, j, none⟩) (hab.block B hlt))⟩
theorem alloc_below (w : World) (o : Obj) : Below w.heap.size w (w.alloc o) := (Below.refl _ _).alloc (Nat.le_refl _) _

theorem own_sl {B n : Nat} {v : Value} {L : List Value} {F : Nat → Int} (h : w.ownsRow B 3 1 v n L) (hF : ∀ k, k < n → L[k]? = some (.int .i64 (F k))) :
    ∃ g cap, v = sl n g cap ∧ (0 < n → B ≤ g ∧ v.ownBlock = some g) ∧ Rw w g n F := by
  rcases h.2 with ⟨rfl, e1⟩ | ⟨g, cap, cur, rfl, hb, hg, _, _, _, ht⟩
  · exact ⟨0, 0, by unfold sl; rw [if_pos e1, if_pos rfl], fun h => by omega, fun h => by omega⟩
  · rcases Nat.eq_zero_or_pos n with hz | hz
    · subst hz
      exact ⟨g, cap + 1, by unfold sl; rw [if_pos rfl, if_neg (by omega)]; rfl, fun h => by omega, fun h => by omega⟩
    · refine ⟨g, cap, (sl_pos hz).symm, fun _ => ⟨hb, rfl⟩, fun _ => ⟨cur, hg, fun k hk => ?_⟩⟩
      have h2 : (cur.toList.take (n * 1))[k]? = L[k]? := by rw [ht]
      rw [List.getElem?_take_of_lt (by omega)] at h2
      simp only [Array.getElem?_toList] at h2
      rw [h2, hF k hk]
theorem cells_get {L : List Nat} {k : Nat} (hk : k < L.length) : (cells L)[k]? = some (.int .i64 ((L.getD k 0 : Nat) : Int)) := by simp [cells, hk]
theorem Rw.congr {g m : Nat} {F G : Nat → Int} (h : Rw w g m F) (e : ∀ k, k < m → F k = G k) : Rw w g m G := by
  intro hm
  obtain ⟨cur, h1, h2⟩ := h hm
  exact ⟨cur, h1, fun k hk => by rw [h2 k hk, e k hk]⟩

/-- Where the labelling lies. -/
def lbE (E : Env) (B gv cv gx cx gt ct : Nat) : Env := { E with lb := B, gv := gv, cv := cv, gx := gx, cx := cx, gt := gt, ct := ct, B := B }
/-- A Walk over it. -/
def wbE (E : Env) (x : Nat) (low : Bool) : Env := { E with wb := x, low := low }

theorem LI.at0 {vv xv tv : Value} {b : Nat} (h : LI w0 w vv xv tv (vl E E.nv) (bl b E.np) (bl b E.np)) (hb : bot E.R E.n = b) (hn : 1 ≤ E.n) (P0 : Pg E w0) :
    ∃ gv cv gx cx gt ct, At0 (lbE E w0.heap.size gv cv gx cx gt ct) w (st0 E) ∧ ∀ x low, w0.heap.size ≤ x → Sep (wbE (lbE E w0.heap.size gv cv gx cx gt ct) x low) := by
  have P := P0.below hn h.bel
  obtain ⟨gv, cv, ev, bv, rv⟩ := own_sl h.vown (fun k hk => cells_get hk)
  obtain ⟨gx, cx, ex, bx, rx⟩ := own_sl h.xown (fun k hk => cells_get hk)
  obtain ⟨gt, ct, et, bt', rt⟩ := own_sl h.town (fun k hk => cells_get hk)
  rw [vl_len] at ev bv rv
  rw [bl_len] at ex bx rx et bt' rt
  have hvx := h.vx
  have hvt := h.vt
  have hxt := h.xt
  refine ⟨gv, cv, gx, cx, gt, ct, ⟨⟨P.pg, P.ord, P.fx, P.ps⟩, ?_, ?_, ?_, ?_⟩, fun x low hx => ⟨P0.obl, P0.gl hn, fun i hi => P0.rbl hi, hx, ?_, ?_, ?_, ?_, ?_, ?_, ?_, ?_, ?_, ?_, ?_, ?_⟩⟩
  · have := h.lab
    rw [ev, ex, et] at this
    exact this
  · refine rv.congr fun k hk => ?_
    simp only [lv, st0]
    have : (vl E E.nv).getD k 0 = v0 E k := by simp [vl, hk]
    rw [this]
  · refine rx.congr fun k hk => ?_
    simp only [lv, st0]
    have : (bl b E.np).getD k 0 = b := by simp [bl, hk]
    rw [this, hb]
  · refine rt.congr fun k hk => ?_
    simp only [lv, st0]
    have : (bl b E.np).getD k 0 = b := by simp [bl, hk]
    rw [this, hb]
  · intro hv; have := (bv hv).1; simp only [wbE, lbE]; omega
  · intro hv; have := (bx hv).1; simp only [wbE, lbE]; omega
  · intro hv; have := (bt' hv).1; simp only [wbE, lbE]; omega
  · intro hv hp e
    simp only [wbE, lbE] at e
    rw [(bx hp).2, (bv hv).2, e] at hvx
    simp at hvx
  · intro hv hp e
    simp only [wbE, lbE] at e
    rw [(bt' hp).2, (bv hv).2, e] at hvt
    simp at hvt
  · intro hv e
    have := (bv hv).1
    have := P0.fx.lt hv
    simp only [wbE, lbE] at e
    omega
  · intro hv hp e
    have := (bv hv).1
    have := P0.ps.lt hp
    simp only [wbE, lbE] at e
    omega
  · intro hp e
    simp only [wbE, lbE] at e
    rw [(bt' hp).2, (bx hp).2, e] at hxt
    simp at hxt
  · intro hv hp e
    have := (bx hp).1
    have := P0.fx.lt hv
    simp only [wbE, lbE] at e
    omega
  · intro hp e
    have := (bx hp).1
    have := P0.ps.lt hp
    simp only [wbE, lbE] at e
    omega
  · intro hv hp e
    have := (bt' hp).1
    have := P0.fx.lt hv
    simp only [wbE, lbE] at e
    omega
  · intro hp e
    have := (bt' hp).1
    have := P0.ps.lt hp
    simp only [wbE, lbE] at e
    omega

theorem wk_env {E E' : Env} (hs : E'.s = E.s) (hR : E'.R = E.R) (hn : E'.n = E.n) (hl : E'.low = E.low) (f : Nat) (mute : Bool) (i p : Nat) (st : WS) : wk E' f mute i p st = wk E f mute i p st := by
  unfold wk; rw [hs, hR, hn, hl]
theorem allTo_env {E E' : Env} (hs : E'.s = E.s) (hR : E'.R = E.R) (hn : E'.n = E.n) (hl : E'.low = E.low) (hP : E'.P = E.P) (hm : E'.main = E.main) (f : Nat) (st : WS) : ∀ k, allTo E' f st k = allTo E f st k := by
  intro k
  induction k with
  | zero => simp only [allTo]; rw [wk_env hs hR hn hl, hR, hn, hm]
  | succ k ih =>
    simp only [allTo]
    rw [ih]
    unfold thrS thrR
    rw [wk_env hs hR hn hl, hP, hR, hn, hl]
theorem allW_lb (E : Env) (B gv cv gx cx gt ct x : Nat) (low : Bool) (f : Nat) (st : WS) : allW (wbE (lbE E B gv cv gx cx gt ct) x low) f st = allW { E with low := low } f st :=
  allTo_env (E := { E with low := low }) (E' := wbE (lbE E B gv cv gx cx gt ct) x low) rfl rfl rfl rfl rfl rfl f st _
/-- A Walk laid. -/
theorem At0.walk {st : WS} (h : At0 E w st) (hn : 1 ≤ E.n) (low : Bool) : At (wbE E w.heap.size low) (w.alloc (.cells #[.pointer (some ⟨E.pb, 0, none⟩), .pointer (some ⟨E.lb, 0, none⟩), .bool low, .bool false, .bool false, .int .i64 (-1)] 97)) false (rsW st) := by
  have hb := (alloc_below w (.cells #[.pointer (some ⟨E.pb, 0, none⟩), .pointer (some ⟨E.lb, 0, none⟩), .bool low, .bool false, .bool false, .int .i64 (-1)] 97)).block
  have hP := h.pg.keep hn hb
  exact ⟨heap_alloc_last w _, hP.pg, (hb _ (Array.getElem?_eq_some_iff.1 h.lb).1).trans h.lb, hP.ord, hP.fx, hP.ps, h.rv.of (fun hv => hb _ (h.rv.lt hv)), h.rx.of (fun hv => hb _ (h.rx.lt hv)), h.rt.of (fun hv => hb _ (h.rt.lt hv))⟩
theorem At.at0_lb {x : Nat} {low mute : Bool} {st : WS} (h : At (wbE E x low) w mute st) : At0 E w st := ⟨⟨h.pg, h.ord, h.fx, h.ps⟩, h.lb, h.rv, h.rx, h.rt⟩
theorem Fr.below {wr : World} {o : Obj} (h : Fr E (wr.alloc o) w) (S : Sep E) (hB : E.B ≤ wr.heap.size) : Below E.B wr w := by
  refine ⟨h.os, h.tape, h.output, by rw [h.size]; simp, fun k hk => ?_⟩
  refine (h.block k ?_ ?_ ?_).trans (Below.heap_alloc wr _ k (by omega))
  · have := S.bw; omega
  · intro hv; have := S.bv hv; omega
  · intro hp; have := S.bx hp; have := S.bt hp; omega

end Go.Proofs.Ytfcflnnleadpkaa

namespace Go.Proofs.Ytfcflnnleadpkaa

variable {c : Nat → Int} {nv N np : Nat}
/-- Every call in the list is of a procedure that is there. -/
def CallsIn (c : Nat → Int) (np : Nat) (D : List Nat) : Prop := ∀ k, k ∈ D → isDB (c k) 4 = true → isDB (c k) np = true

theorem scS_wf (f : Nat) : ∀ (i j : Nat) (C D : List Nat), scS c nv N f i C = (j, false, D) → (∀ k, k ∈ C → k ∈ D) ∧ (CallsIn c np D → wfS c nv N np f i = (j, false)) := by
  induction f with
  | zero => intro i j C D h; simp [scS] at h
  | succ f ih =>
    intro i j C D h
    have hS : ∀ i, thenS (scS c nv N f i C) (scS c nv N f) = (j, false, D) → (∀ k, k ∈ C → k ∈ D) ∧ (CallsIn c np D → (wfS c nv N np f i).2 = false ∧ wfS c nv N np f (wfS c nv N np f i).1 = (j, false)) := by
      intro i h
      unfold thenS at h
      split at h
      · rename_i hb; rw [h] at hb; simp at hb
      · rename_i hb
        simp only [Bool.not_eq_true] at hb
        obtain ⟨a1, a2⟩ := ih i (scS c nv N f i C).1 C (scS c nv N f i C).2.2 (by rw [← hb])
        obtain ⟨b1, b2⟩ := ih _ _ _ _ h
        refine ⟨fun k hk => b1 k (a1 k hk), fun hD => ?_⟩
        rw [a2 (fun k hk => hD k (b1 k hk))]
        exact ⟨rfl, b2 hD⟩
    simp only [scS] at h
    simp only [wfS]
    by_cases c1 : c i = 46 ∨ c i = 120
    · rw [if_pos c1] at h ⊢
      simp only [Prod.mk.injEq] at h
      obtain ⟨rfl, _, rfl⟩ := h
      exact ⟨fun _ h => h, fun _ => rfl⟩
    rw [if_neg c1] at h ⊢
    by_cases c2 : c i = 44 ∨ c i = 116
    · rw [if_pos c2] at h ⊢
      obtain ⟨a1, a2⟩ := hS _ h
      refine ⟨a1, fun hD => ?_⟩
      obtain ⟨b1, b2⟩ := a2 hD
      rw [b1]; simp only [Bool.false_eq_true, if_false]; exact b2
    rw [if_neg c2] at h ⊢
    by_cases c3 : c i = 61
    · rw [if_pos c3] at h ⊢
      split at h
      · rename_i hv
        rw [if_pos hv]
        unfold thenE at h
        split at h
        · simp at h
        · rename_i hb
          simp only [Bool.not_eq_true] at hb
          simp only [Prod.mk.injEq] at h
          obtain ⟨rfl, _, rfl⟩ := h
          exact ⟨fun _ h => h, fun _ => by rw [← hb]⟩
      · simp at h
    rw [if_neg c3] at h ⊢
    by_cases c4 : c i = 105
    · rw [if_pos c4] at h ⊢
      unfold thenE at h
      split at h
      · simp at h
      · rename_i hb
        rw [if_neg hb]
        obtain ⟨a1, a2⟩ := hS _ h
        refine ⟨a1, fun hD => ?_⟩
        obtain ⟨b1, b2⟩ := a2 hD
        rw [b1]; simp only [Bool.false_eq_true, if_false]; exact b2
    rw [if_neg c4] at h ⊢
    by_cases c5 : c i = 119
    · rw [if_pos c5] at h ⊢
      unfold thenE at h
      split at h
      · simp at h
      · rename_i hb
        rw [if_neg hb]
        exact ih _ _ _ _ h
    rw [if_neg c5] at h ⊢
    by_cases c6 : c i = 114
    · rw [if_pos c6] at h ⊢
      split at h
      · rename_i hd
        split at h
        · rename_i hv
          rw [if_pos ⟨hd, hv⟩]
          simp only [Prod.mk.injEq] at h
          obtain ⟨rfl, _, rfl⟩ := h
          exact ⟨fun _ h => h, fun _ => rfl⟩
        · simp at h
      · simp at h
    rw [if_neg c6] at h ⊢
    by_cases c7 : c i = 111
    · rw [if_pos c7] at h ⊢
      split at h
      · rename_i hd
        rw [if_pos hd]
        unfold thenE at h
        split at h
        · simp at h
        · rename_i hb
          simp only [Bool.not_eq_true] at hb
          simp only [Prod.mk.injEq] at h
          obtain ⟨rfl, _, rfl⟩ := h
          exact ⟨fun _ h => h, fun _ => by rw [← hb]⟩
      · simp at h
    rw [if_neg c7] at h ⊢
    by_cases c8 : c i = 99
    · rw [if_pos c8] at h ⊢
      split at h
      · rename_i hd
        simp only [Prod.mk.injEq] at h
        obtain ⟨rfl, _, rfl⟩ := h
        refine ⟨fun k hk => by simp [hk], fun hD => ?_⟩
        rw [if_pos (hD (i + 1) (by simp) hd)]
      · simp at h
    rw [if_neg c8] at h
    simp at h

theorem scPr_wf {sz f : Nat} (g : Nat) : ∀ (i j : Nat) (C P D Ps : List Nat), scPr c nv N sz f g i C P = (j, false, D, Ps) → (∀ k, k ∈ C → k ∈ D) ∧ (P.length ≤ 4 → Ps.length ≤ 4) ∧ (CallsIn c np D → ∀ m, m ∈ Ps → m ∈ P ∨ ∃ j, wfS c nv N np f m = (j, false)) := by
  induction g with
  | zero => intro i j C P D Ps h; simp [scPr] at h
  | succ g ih =>
    intro i j C P D Ps h
    simp only [scPr] at h
    split at h
    · split at h
      · rename_i hp
        split at h
        · simp at h
        · rename_i hb
          simp only [Bool.not_eq_true] at hb
          obtain ⟨a1, a2⟩ := scS_wf (np := np) f (i + 1) (scS c nv N f (i + 1) C).1 C (scS c nv N f (i + 1) C).2.2 (by rw [← hb])
          obtain ⟨b1, b2, b3⟩ := ih _ _ _ _ _ _ h
          refine ⟨fun k hk => b1 k (a1 k hk), fun _ => b2 (by simp; omega), fun hD m hm => ?_⟩
          rcases b3 hD m hm with hm' | hm'
          · rw [List.mem_append] at hm'
            rcases hm' with h1 | h1
            · exact Or.inl h1
            · simp at h1
              subst h1
              exact Or.inr ⟨_, a2 (fun k hk => hD k (b1 k hk))⟩
          · exact Or.inr hm'
      · simp at h
    · simp only [Prod.mk.injEq] at h
      obtain ⟨_, _, rfl, rfl⟩ := h
      exact ⟨fun _ h => h, fun h => h, fun _ m hm => Or.inl hm⟩

theorem badCall_none {n : Nat} : ∀ {D : List Nat}, badCall c n D = none → ∀ k, k ∈ D → ¬ (n : Int) ≤ dgt (c k) 4 := by
  intro D
  induction D with
  | nil => intro _ k hk; cases hk
  | cons a r ih =>
    intro h k hk
    simp only [badCall] at h
    split at h
    · cases h
    · rename_i hn
      rcases List.mem_cons.1 hk with rfl | hk
      · exact hn
      · exact ih h k hk
theorem nvOf_le (c : Nat → Int) (N : Nat) : nvOf c N ≤ 8 := by
  unfold nvOf
  have : ∀ f k, cntV c N f k ≤ k + f := by
    intro f
    induction f with
    | zero => intro k; simp [cntV]
    | succ f ih =>
      intro k
      simp only [cntV]
      split
      · have := ih (k + 1); omega
      · omega
  exact this 8 0

/-- A text that is read without an error: its parts are whole. -/
theorem prE_parts {s : ByteArray} {N : Nat} (h : prE s N = 0) : s.size ≤ 300 ∧ prNv s N ≤ 8 ∧ (prPs s N).length ≤ 4 ∧
    (∃ j, wfS (bt s) (prNv s N) N (prPs s N).length (s.size + 1) (prNv s N + 1) = (j, false)) ∧
    ∀ m, m ∈ prPs s N → ∃ j, wfS (bt s) (prNv s N) N (prPs s N).length (s.size + 1) m = (j, false) := by
  unfold prE at h
  split at h
  · omega
  rename_i hs
  split at h
  · omega
  rename_i hb
  split at h
  · omega
  rename_i hc
  simp only [Bool.not_eq_true] at hb
  have hc' : prC s N = none := by cases e : prC s N with | none => rfl | some k => rw [e] at hc; simp at hc
  unfold prC at hc'
  have hbad := badCall_none hc'
  have hD : CallsIn (bt s) (prPs s N).length (prA s N).2.2.1 := by
    intro k hk h4
    have h1 := hbad k hk
    have h2 := (isDB_iff _ _).1 h4
    rw [dgt_yes h2] at h1
    refine (isDB_iff _ _).2 ⟨h2.1, h2.2.1, ?_⟩
    show bt s k - 48 < ((prA s N).2.2.2.length : Int)
    omega
  refine ⟨by omega, nvOf_le _ _, ?_⟩
  have hA : prA s N = parseAll (bt s) N s.size := rfl
  unfold parseAll at hA
  split at hA
  · split at hA
    · rw [hA] at hb; simp at hb
    · rename_i hm
      simp only [Bool.not_eq_true] at hm
      obtain ⟨a1, a2⟩ := scS_wf (np := (prPs s N).length) (s.size + 1) (nvOf (bt s) N + 1) (scS (bt s) (nvOf (bt s) N) N (s.size + 1) (nvOf (bt s) N + 1) []).1 [] (scS (bt s) (nvOf (bt s) N) N (s.size + 1) (nvOf (bt s) N + 1) []).2.2 (by rw [← hm])
      obtain ⟨b1, b2, b3⟩ := scPr_wf (np := (prPs s N).length) 5 _ (prA s N).1 _ _ (prA s N).2.2.1 (prA s N).2.2.2 (by rw [← hA, ← hb])
      refine ⟨b2 (by simp), ⟨_, a2 (fun k hk => hD k (b1 k hk))⟩, fun m hm => ?_⟩
      rcases b3 hD m hm with h1 | h1
      · cases h1
      · exact h1
  · rw [hA] at hb; simp at hb

end Go.Proofs.Ytfcflnnleadpkaa

namespace Go.Proofs.Ytfcflnnleadpkaa

/-- a is below b, both levels. -/
def Le (R : Nat → Nat → Bool) (n a b : Nat) : Prop := R a b = true ∧ a < n ∧ b < n
/-- Levels, with a bottom. -/
structure Lat (n : Nat) (R : Nat → Nat → Bool) : Prop where
  L : Lattice n R
  n1 : 1 ≤ n
  bt : ∀ b, b < n → R (bot R n) b = true

variable {n : Nat} {R : Nat → Nat → Bool}

theorem meet_all (h : Hm.wellR R n = true) (tr : Trans n R) : ∀ m, m < n → ∃ a, a < n ∧ ∀ b, b ≤ m → R a b = true := by
  rw [Hm.wellR_iff] at h
  intro m
  induction m with
  | zero =>
    intro hm
    obtain ⟨c, hc, hg⟩ := ((Hm.wellRow_iff _ _ _ _).1 (h 0 0 hm hm)).2.2
    exact ⟨c, hc, fun b hb => by have : b = 0 := by omega
                                 subst this; exact ((Hm.glb_iff _ _ _ _ _).1 hg).1⟩
  | succ m ih =>
    intro hm
    obtain ⟨a, ha, hb⟩ := ih (by omega)
    obtain ⟨c, hc, hg⟩ := ((Hm.wellRow_iff _ _ _ _).1 (h a (m + 1) ha hm)).2.2
    have hg := (Hm.glb_iff _ _ _ _ _).1 hg
    refine ⟨c, hc, fun b hbm => ?_⟩
    by_cases e : b = m + 1
    · subst e; exact hg.2.1
    · exact tr c a b hc ha (by omega) hg.1 (hb b (by omega))
theorem cl_lat (s : ByteArray) (h1 : 1 ≤ n) (h : Hm.wellR (cl s n) n = true) : Lat n (cl s n) := by
  refine ⟨cl_lattice s n h, h1, fun b hb => ?_⟩
  obtain ⟨a, ha, hall⟩ := meet_all h (wf_trans n _) (n - 1) (by omega)
  unfold bot
  rcases Hm.firstB_spec (fun a => Hm.allB (cl s n a) n 0) n 0 with ⟨d, _, h2, h3, h4⟩ | ⟨h3, h4⟩
  · rw [h4]
    exact (Hm.allB_iff _ _ _).1 h3 b (by omega) (by omega)
  · have := h4 a (by omega) (by omega)
    have h5 : Hm.allB (cl s n a) n 0 = true := (Hm.allB_iff _ _ _).2 (fun d _ hd => hall d (by omega))
    rw [h5] at this
    cases this

variable {a b c d : Nat}
theorem Lat.refl (A : Lat n R) (h : a < n) : Le R n a a := ⟨A.L.refl a h, h, h⟩
theorem Lat.trans (A : Lat n R) (h : Le R n a b) (k : Le R n b c) : Le R n a c := ⟨A.L.trans a b c h.2.1 h.2.2 k.2.2 h.1 k.1, h.2.1, k.2.2⟩
theorem Lat.anti (A : Lat n R) (h : Le R n a b) (k : Le R n b a) : a = b := A.L.anti a b h.2.1 h.2.2 h.1 k.1
theorem Lat.bl (A : Lat n R) (h : a < n) : Le R n (bot R n) a := ⟨A.bt a h, bot_lt A.n1, h⟩
theorem Lat.lt (A : Lat n R) (ha : a < n) (hb : b < n) : jn R n a b < n := (A.L.jn_lt ha hb).1
theorem Lat.l (A : Lat n R) (ha : a < n) (hb : b < n) : Le R n a (jn R n a b) := ⟨((Hm.lub_iff _ _ _ _ _).1 (A.L.jn_lt ha hb).2.2).1, ha, A.lt ha hb⟩
theorem Lat.r (A : Lat n R) (ha : a < n) (hb : b < n) : Le R n b (jn R n a b) := ⟨((Hm.lub_iff _ _ _ _ _).1 (A.L.jn_lt ha hb).2.2).2.1, hb, A.lt ha hb⟩
theorem Lat.sup (A : Lat n R) (h : Le R n a c) (k : Le R n b c) : Le R n (jn R n a b) c := ⟨((Hm.lub_iff _ _ _ _ _).1 (A.L.jn_lt h.2.1 k.2.1).2.2).2.2 c h.2.2 h.1 k.1, A.lt h.2.1 k.2.1, h.2.2⟩
theorem Lat.mono (A : Lat n R) (h : Le R n a c) (k : Le R n b d) : Le R n (jn R n a b) (jn R n c d) := A.sup (A.trans h (A.l h.2.2 k.2.2)) (A.trans k (A.r h.2.2 k.2.2))
/-- What is below already adds nothing. -/
theorem Lat.jn_eq (A : Lat n R) (h : Le R n b a) : jn R n a b = a := A.anti (A.sup (A.refl h.2.2) h) (A.l h.2.2 h.2.1)
theorem Lat.of_jn (A : Lat n R) (ha : a < n) (hb : b < n) (h : jn R n a b = a) : Le R n b a := by have := A.r ha hb; rw [h] at this; exact this
theorem Lat.of_jn' (A : Lat n R) (ha : a < n) (hb : b < n) (h : jn R n a b = b) : Le R n a b := by have := A.l ha hb; rw [h] at this; exact this
theorem Lat.jn_eq' (A : Lat n R) (h : Le R n a b) : jn R n a b = b := A.anti (A.sup h (A.refl h.2.2)) (A.r h.2.1 h.2.2)

/-- One list of levels is below another. -/
def Bel (R : Nat → Nat → Bool) (n m : Nat) (F G : Nat → Nat) : Prop := ∀ k, k < m → Le R n (F k) (G k)
theorem Bel.refl (A : Lat n R) {m : Nat} {F : Nat → Nat} (h : ∀ k, k < m → F k < n) : Bel R n m F F := fun k hk => A.refl (h k hk)
theorem Bel.trans (A : Lat n R) {m : Nat} {F G H : Nat → Nat} (h : Bel R n m F G) (k : Bel R n m G H) : Bel R n m F H := fun i hi => A.trans (h i hi) (k i hi)

variable {cs : Nat → Int} {nv np : Nat} {V W : Nat → Nat}
theorem labE_mono (A : Lat n R) (h : Bel R n nv V W) : ∀ f i j, scE cs nv f i = (j, false) →
    (labE cs R n V f i).1 = j ∧ (labE cs R n W f i).1 = j ∧ Le R n (labE cs R n V f i).2.1 (labE cs R n W f i).2.1 ∧ Le R n (labE cs R n V f i).2.2.1 (labE cs R n W f i).2.2.1 ∧ (labE cs R n V f i).2.2.2 = (labE cs R n W f i).2.2.2 := by
  intro f
  induction f with
  | zero => intro i j h; simp [scE] at h
  | succ f ih =>
    intro i j hs
    cases ho : isOp (cs i)
    · obtain ⟨rfl, h2 | ⟨h2, h3⟩⟩ := scE_inv_leaf hs ho
      · rw [labE_dig ho h2, labE_dig ho h2]; exact ⟨rfl, rfl, A.refl (bot_lt A.n1), A.refl (bot_lt A.n1), rfl⟩
      · rw [labE_var ho h2, labE_var ho h2]
        obtain ⟨k, e, hk⟩ := isVar_nat h3
        exact ⟨rfl, rfl, by rw [e]; exact h k hk, A.refl (bot_lt A.n1), rfl⟩
    · obtain ⟨k, e1, e2⟩ := scE_inv_op hs ho
      obtain ⟨a1, a2, a3, a4, a5⟩ := ih _ _ e1
      obtain ⟨b1, b2, b3, b4, b5⟩ := ih _ _ e2
      rw [labE_op ho, labE_op ho, a1, a2]
      refine ⟨b1, b2, A.mono a3 b3, ?_, by simp only; rw [a5, b5]⟩
      simp only
      split
      · exact A.mono (A.mono a4 b4) b3
      · exact A.mono a4 b4
theorem condW_mono (A : Lat n R) (h : Bel R n nv V W) {f i j p q : Nat} (hs : scE cs nv f i = (j, false)) (hp : Le R n p q) :
    (condW cs R n V f i p).1 = j ∧ (condW cs R n W f i q).1 = j ∧ Le R n (condW cs R n V f i p).2.1 (condW cs R n W f i q).2.1 ∧ Le R n (condW cs R n V f i p).2.2 (condW cs R n W f i q).2.2 := by
  obtain ⟨a1, a2, a3, a4, a5⟩ := labE_mono A h f i j hs
  unfold condW
  refine ⟨a1, a2, A.mono hp a3, ?_⟩
  simp only
  rw [a5]
  split
  · exact A.mono hp a4
  · exact A.refl (bot_lt A.n1)

end Go.Proofs.Ytfcflnnleadpkaa

namespace Go.Proofs.Ytfcflnnleadpkaa

/-- What a demand is on: a level, a variable, a procedure's context. -/
inductive Tgt where
  | lev (d : Nat)
  | var (v : Nat)
  | ctx (k : Nat)
/-- A demand: the statement's place, what must be below. -/
structure Dm where
  pl : Nat
  a : Nat
  tg : Tgt
def tgv (V X : Nat → Nat) : Tgt → Nat
  | .lev d => d
  | .var v => V v
  | .ctx k => X k

section
variable (c : Nat → Int) (R : Nat → Nat → Bool) (n : Nat) (V T : Nat → Nat)
/-- The document's table: where a statement ends, its throw, its demands. -/
def wd : Nat → Nat → Nat → Nat × Nat × List Dm
  | 0, i, _ => (i, bot R n, [])
  | f + 1, i, p =>
    if c i = 44 ∨ c i = 116 then
      (let r1 := wd f (i + 1) p
       let r2 := wd f r1.1 (jn R n p r1.2.1)
       (r2.1, (if c i = 44 then jn R n r1.2.1 r2.2.1 else r2.2.1), r1.2.2 ++ r2.2.2))
    else if c i = 61 then
      (let e := condW c R n V f (i + 2) p
       (e.1, e.2.2, [⟨i, e.2.1, .var (c (i + 1) - 97).toNat⟩]))
    else if c i = 105 then
      (let e := condW c R n V f (i + 1) p
       let r1 := wd f e.1 e.2.1
       let r2 := wd f r1.1 e.2.1
       (r2.1, jn R n e.2.2 (jn R n r1.2.1 r2.2.1), r1.2.2 ++ r2.2.2))
    else if c i = 119 then
      (let e := condW c R n V f (i + 1) p
       let r := jn R n e.2.1 e.2.2
       let r1 := wd f e.1 r
       (r1.1, jn R n e.2.2 r1.2.1, (wd f e.1 (jn R n r r1.2.1)).2.2))
    else if c i = 114 then
      (let d := (c (i + 1) - 48).toNat
       (i + 3, jn R n p d, [⟨i, p, .lev d⟩, ⟨i, jn R n p d, .var (c (i + 2) - 97).toNat⟩]))
    else if c i = 111 then
      (let e := condW c R n V f (i + 2) p
       (e.1, e.2.2, [⟨i, e.2.1, .lev (c (i + 1) - 48).toNat⟩]))
    else if c i = 120 then (i + 1, p, [])
    else if c i = 99 then (i + 2, jn R n p (T (c (i + 1) - 48).toNat), [⟨i, p, .ctx (c (i + 1) - 48).toNat⟩])
    else (i + 1, bot R n, [])
end

section
variable {c : Nat → Int} {R : Nat → Nat → Bool} {n nv np : Nat} {V T : Nat → Nat} {f i p : Nat}
theorem wd_seq (h : c i = 44 ∨ c i = 116) : wd c R n V T (f + 1) i p =
    (let r1 := wd c R n V T f (i + 1) p
     let r2 := wd c R n V T f r1.1 (jn R n p r1.2.1)
     (r2.1, (if c i = 44 then jn R n r1.2.1 r2.2.1 else r2.2.1), r1.2.2 ++ r2.2.2)) := by
  simp only [wd]; rw [if_pos h]
theorem wd_eq (h : c i = 61) : wd c R n V T (f + 1) i p = ((condW c R n V f (i + 2) p).1, (condW c R n V f (i + 2) p).2.2, [⟨i, (condW c R n V f (i + 2) p).2.1, .var (c (i + 1) - 97).toNat⟩]) := by
  simp only [wd]; rw [if_neg (by omega), if_pos h]
theorem wd_i (h : c i = 105) : wd c R n V T (f + 1) i p =
    (let e := condW c R n V f (i + 1) p
     let r1 := wd c R n V T f e.1 e.2.1
     let r2 := wd c R n V T f r1.1 e.2.1
     (r2.1, jn R n e.2.2 (jn R n r1.2.1 r2.2.1), r1.2.2 ++ r2.2.2)) := by
  simp only [wd]; rw [if_neg (by omega), if_neg (by omega), if_pos h]
theorem wd_w (h : c i = 119) : wd c R n V T (f + 1) i p =
    (let e := condW c R n V f (i + 1) p
     let r := jn R n e.2.1 e.2.2
     let r1 := wd c R n V T f e.1 r
     (r1.1, jn R n e.2.2 r1.2.1, (wd c R n V T f e.1 (jn R n r r1.2.1)).2.2)) := by
  simp only [wd]; rw [if_neg (by omega), if_neg (by omega), if_neg (by omega), if_pos h]
theorem wd_r (h : c i = 114) : wd c R n V T (f + 1) i p = (i + 3, jn R n p (c (i + 1) - 48).toNat, [⟨i, p, .lev (c (i + 1) - 48).toNat⟩, ⟨i, jn R n p (c (i + 1) - 48).toNat, .var (c (i + 2) - 97).toNat⟩]) := by
  simp only [wd]; rw [if_neg (by omega), if_neg (by omega), if_neg (by omega), if_neg (by omega), if_pos h]
theorem wd_o (h : c i = 111) : wd c R n V T (f + 1) i p = ((condW c R n V f (i + 2) p).1, (condW c R n V f (i + 2) p).2.2, [⟨i, (condW c R n V f (i + 2) p).2.1, .lev (c (i + 1) - 48).toNat⟩]) := by
  simp only [wd]; rw [if_neg (by omega), if_neg (by omega), if_neg (by omega), if_neg (by omega), if_neg (by omega), if_pos h]
theorem wd_x (h : c i = 120) : wd c R n V T (f + 1) i p = (i + 1, p, []) := by
  simp only [wd]; rw [if_neg (by omega), if_neg (by omega), if_neg (by omega), if_neg (by omega), if_neg (by omega), if_neg (by omega), if_pos h]
theorem wd_c (h : c i = 99) : wd c R n V T (f + 1) i p = (i + 2, jn R n p (T (c (i + 1) - 48).toNat), [⟨i, p, .ctx (c (i + 1) - 48).toNat⟩]) := by
  simp only [wd]; rw [if_neg (by omega), if_neg (by omega), if_neg (by omega), if_neg (by omega), if_neg (by omega), if_neg (by omega), if_neg (by omega), if_pos h]
theorem wd_dot (h : c i = 46) : wd c R n V T (f + 1) i p = (i + 1, bot R n, []) := by
  simp only [wd]; rw [if_neg (by omega), if_neg (by omega), if_neg (by omega), if_neg (by omega), if_neg (by omega), if_neg (by omega), if_neg (by omega), if_neg (by omega)]

variable {fx : Nat → Int} {low mute : Bool} {st : WS} {j : Nat}

theorem callW_mute {v a k : Nat} : callW R n low true st v a k = st := by unfold callW; rw [if_neg (by simp)]; exact demW_mute

/-- The table: where a statement ends; its throw is a level, and so is what a demand speaks of. -/
def TgOk (n nv np : Nat) : Tgt → Prop
  | .lev d => d < n
  | .var v => v < nv
  | .ctx k => k < np
theorem wd_ok (L : Lattice n R) (h1 : 1 ≤ n) (hV : ∀ k, k < nv → V k < n) (hT : ∀ k, k < np → T k < n) : ∀ (f i p j : Nat), wfS c nv n np f i = (j, false) → p < n →
    (wd c R n V T f i p).1 = j ∧ (wd c R n V T f i p).2.1 < n ∧ ∀ d ∈ (wd c R n V T f i p).2.2, d.a < n ∧ TgOk n nv np d.tg := by
  intro f
  induction f with
  | zero => intro i p j h; simp [wfS] at h
  | succ f ih =>
    intro i p j h hp
    rcases wfS_letter h with hc | hc | hc | hc | hc | hc | hc | hc
    · have := wfS_inv_plain h hc
      subst this
      rcases hc with hc | hc
      · rw [wd_dot hc]; exact ⟨rfl, bot_lt h1, by simp⟩
      · rw [wd_x hc]; exact ⟨rfl, hp, by simp⟩
    · obtain ⟨k, e1, e2⟩ := wfS_inv_seq h hc
      obtain ⟨a1, a2, a3⟩ := ih (i + 1) p k e1 hp
      rw [wd_seq hc]
      simp only
      rw [a1]
      obtain ⟨b1, b2, b3⟩ := ih k (jn R n p (wd c R n V T f (i + 1) p).2.1) j e2 (L.jn_lt hp a2).1
      refine ⟨b1, ?_, fun d hd => ?_⟩
      · split
        · exact (L.jn_lt a2 b2).1
        · exact b2
      · rcases List.mem_append.1 hd with hd | hd
        · exact a3 d hd
        · exact b3 d hd
    · obtain ⟨e1, e2⟩ := wfS_inv_eq h hc
      obtain ⟨a1, a2, a3⟩ := condW_ok (c := c) L h1 hV hp e2
      obtain ⟨k, ek, hk⟩ := isVar_nat e1
      rw [wd_eq hc]
      refine ⟨a1, a3, fun d hd => ?_⟩
      rw [List.mem_singleton.1 hd]
      exact ⟨a2, by rw [ek]; exact hk⟩
    · obtain ⟨k, m, e1, e2, e3⟩ := wfS_inv_i h hc
      obtain ⟨a1, a2, a3⟩ := condW_ok (c := c) L h1 hV hp e1
      rw [wd_i hc]
      simp only
      rw [a1]
      obtain ⟨b1, b2, b3⟩ := ih k _ m e2 a2
      rw [b1]
      obtain ⟨d1, d2, d3⟩ := ih m _ j e3 a2
      refine ⟨d1, (L.jn_lt a3 (L.jn_lt b2 d2).1).1, fun d hd => ?_⟩
      rcases List.mem_append.1 hd with hd | hd
      · exact b3 d hd
      · exact d3 d hd
    · obtain ⟨k, e1, e2⟩ := wfS_inv_w h hc
      obtain ⟨a1, a2, a3⟩ := condW_ok (c := c) L h1 hV hp e1
      rw [wd_w hc]
      simp only
      rw [a1]
      have hrr := (L.jn_lt a2 a3).1
      obtain ⟨b1, b2, b3⟩ := ih k _ j e2 hrr
      exact ⟨b1, (L.jn_lt a3 b2).1, (ih k _ j e2 (L.jn_lt hrr b2).1).2.2⟩
    · obtain ⟨e1, e2, rfl⟩ := wfS_inv_r h hc
      obtain ⟨d, ed, hd⟩ := isDB_nat e1
      obtain ⟨k, ek, hk⟩ := isVar_nat e2
      rw [wd_r hc, ed, ek]
      refine ⟨rfl, (L.jn_lt hp hd).1, fun x hx => ?_⟩
      rcases List.mem_cons.1 hx with hx | hx
      · rw [hx]; exact ⟨hp, hd⟩
      · rw [List.mem_singleton.1 hx]; exact ⟨(L.jn_lt hp hd).1, hk⟩
    · obtain ⟨e1, e2⟩ := wfS_inv_o h hc
      obtain ⟨a1, a2, a3⟩ := condW_ok (c := c) L h1 hV hp e2
      obtain ⟨d, ed, hd⟩ := isDB_nat e1
      rw [wd_o hc, ed]
      refine ⟨a1, a3, fun x hx => ?_⟩
      rw [List.mem_singleton.1 hx]; exact ⟨a2, hd⟩
    · obtain ⟨e1, rfl⟩ := wfS_inv_c h hc
      obtain ⟨d, ed, hd⟩ := isDB_nat e1
      rw [wd_c hc, ed]
      refine ⟨rfl, (L.jn_lt hp (hT d hd)).1, fun x hx => ?_⟩
      rw [List.mem_singleton.1 hx]; exact ⟨hp, hd⟩

/-- A mute look is the table's. -/
theorem wkS_mute : ∀ (f i p : Nat), wkS c R n fx low f true i p st = ((wd c R n st.V st.T f i p).1, (wd c R n st.V st.T f i p).2.1, st) := by
  intro f
  induction f with
  | zero => intro i p; rfl
  | succ f ih =>
    intro i p
    simp only [wkS, wd, ih, demW_mute, atLW_mute, callW_mute, if_true]
    repeat' split
    all_goals rfl

/-- Another first bad place. -/
def putB (st : WS) (b : Int) : WS := { st with bad := b }
theorem putB_putB {b b' : Int} : putB (putB st b) b' = putB st b' := rfl
theorem putB_self : putB st st.bad = st := rfl
/-- One demand. -/
def bd1 (R : Nat → Nat → Bool) (V X : Nat → Nat) (d : Dm) (b : Int) : Int := if R d.a (tgv V X d.tg) = false ∧ (b < 0 ∨ (d.pl : Int) < b) then (d.pl : Int) else b
/-- The first bad place behind some demands. -/
def bdF (R : Nat → Nat → Bool) (V X : Nat → Nat) : List Dm → Int → Int
  | [], b => b
  | d :: ds, b => bdF R V X ds (bd1 R V X d b)
theorem bdF_append {V X : Nat → Nat} (ds es : List Dm) : ∀ b, bdF R V X (ds ++ es) b = bdF R V X es (bdF R V X ds b) := by
  induction ds with
  | nil => intro b; rfl
  | cons d ds ih => intro b; exact ih _
theorem demW_put {a b k : Nat} : demW R false st a b k = putB st (if R a b = false ∧ (st.bad < 0 ∨ (k : Int) < st.bad) then (k : Int) else st.bad) := by
  unfold demW putB
  by_cases h : R a b = false ∧ (st.bad < 0 ∨ (k : Int) < st.bad)
  · rw [if_pos ⟨rfl, h.1, h.2⟩, if_pos h]
  · rw [if_neg (fun g => h ⟨g.2.1, g.2.2⟩), if_neg h]
theorem demW_tg {a k : Nat} {tg : Tgt} {V X : Nat → Nat} {b : Nat} (hb : tgv V X tg = b) : demW R false st a b k = putB st (bd1 R V X ⟨k, a, tg⟩ st.bad) := by
  rw [demW_put]; unfold bd1; simp only; rw [hb]
theorem atLW_flat {v a k : Nat} : atLW R n fx false false st v a k = putB st (bd1 R st.V st.X ⟨k, a, .var v⟩ st.bad) := by
  unfold atLW; rw [if_neg (by simp), if_neg (by simp)]; exact demW_tg rfl
theorem callW_flat {v a k : Nat} : callW R n false false st v a k = putB st (bd1 R st.V st.X ⟨k, a, .ctx v⟩ st.bad) := by
  unfold callW; rw [if_neg (by simp)]; exact demW_tg rfl

/-- A look that raises nothing: the table's throw, and its demands held against the labelling. -/
theorem wkS_flat : ∀ (f i p : Nat) (st : WS), wkS c R n fx false f false i p st = ((wd c R n st.V st.T f i p).1, (wd c R n st.V st.T f i p).2.1, putB st (bdF R st.V st.X (wd c R n st.V st.T f i p).2.2 st.bad)) := by
  intro f
  induction f with
  | zero => intro i p st; rfl
  | succ f ih =>
    intro i p st
    by_cases h1 : c i = 44 ∨ c i = 116
    · rw [wkS_seq h1, wd_seq h1, ih (i + 1) p st]
      simp only
      rw [ih _ _ (putB st _), bdF_append]
      rfl
    by_cases h2 : c i = 61
    · rw [wkS_eq h2, wd_eq h2, atLW_flat]; rfl
    by_cases h3 : c i = 105
    · rw [wkS_i h3, wd_i h3]
      simp only
      rw [ih _ _ st]
      simp only
      rw [ih _ _ (putB st _), bdF_append]
      rfl
    by_cases h4 : c i = 119
    · rw [wkS_w h4, wd_w h4]
      simp only
      rw [wkS_mute]
      simp only [Bool.false_eq_true, if_false]
      rw [ih _ _ st]
    by_cases h5 : c i = 114
    · rw [wkS_r h5, wd_r h5, demW_tg (V := st.V) (X := st.X) (b := (c (i + 1) - 48).toNat) (tg := .lev (c (i + 1) - 48).toNat) rfl, atLW_flat]; rfl
    by_cases h6 : c i = 111
    · rw [wkS_o h6, wd_o h6, demW_tg (V := st.V) (X := st.X) (b := (c (i + 1) - 48).toNat) (tg := .lev (c (i + 1) - 48).toNat) rfl]; rfl
    by_cases h7 : c i = 120
    · rw [wkS_x h7, wd_x h7]; rfl
    by_cases h8 : c i = 99
    · rw [wkS_c h8, wd_c h8, callW_flat]; rfl
    simp only [wkS, wd]
    rw [if_neg h1, if_neg h2, if_neg h3, if_neg h4, if_neg h5, if_neg h6, if_neg h7, if_neg h8, if_neg h1, if_neg h2, if_neg h3, if_neg h4, if_neg h5, if_neg h6, if_neg h7, if_neg h8]
    rfl
end

end Go.Proofs.Ytfcflnnleadpkaa

namespace Go.Proofs.Ytfcflnnleadpkaa

section
variable {c : Nat → Int} {R : Nat → Nat → Bool} {n nv np : Nat} {V T V' T' : Nat → Nat}

/-- Each demand is one of the others', of no more. -/
def DmB (R : Nat → Nat → Bool) (n : Nat) (ds es : List Dm) : Prop := ∀ d ∈ ds, ∃ e ∈ es, e.tg = d.tg ∧ e.pl = d.pl ∧ Le R n d.a e.a
theorem DmB.nil {es : List Dm} : DmB R n [] es := fun d hd => by simp at hd
theorem DmB.app {a b a' b' : List Dm} (h : DmB R n a a') (k : DmB R n b b') : DmB R n (a ++ b) (a' ++ b') := by
  intro d hd
  rcases List.mem_append.1 hd with hd | hd
  · obtain ⟨e, he, h2⟩ := h d hd
    exact ⟨e, List.mem_append.2 (Or.inl he), h2⟩
  · obtain ⟨e, he, h2⟩ := k d hd
    exact ⟨e, List.mem_append.2 (Or.inr he), h2⟩
theorem DmB.one {i a b : Nat} {tg : Tgt} (h : Le R n a b) : DmB R n [⟨i, a, tg⟩] [⟨i, b, tg⟩] := by
  intro d hd
  rw [List.mem_singleton.1 hd]
  exact ⟨_, List.mem_singleton.2 rfl, rfl, rfl, h⟩

/-- Higher labels, a higher context: a higher throw, and each demand is of no less. -/
theorem wd_mono (A : Lat n R) (hV : Bel R n nv V V') (hT : Bel R n np T T') : ∀ (f i p q j : Nat), wfS c nv n np f i = (j, false) → Le R n p q →
    (wd c R n V T f i p).1 = j ∧ (wd c R n V' T' f i q).1 = j ∧ Le R n (wd c R n V T f i p).2.1 (wd c R n V' T' f i q).2.1 ∧ DmB R n (wd c R n V T f i p).2.2 (wd c R n V' T' f i q).2.2 := by
  intro f
  induction f with
  | zero => intro i p q j h; simp [wfS] at h
  | succ f ih =>
    intro i p q j h hp
    rcases wfS_letter h with hc | hc | hc | hc | hc | hc | hc | hc
    · have := wfS_inv_plain h hc
      subst this
      rcases hc with hc | hc
      · rw [wd_dot hc, wd_dot hc]; exact ⟨rfl, rfl, A.refl (bot_lt A.n1), DmB.nil⟩
      · rw [wd_x hc, wd_x hc]; exact ⟨rfl, rfl, hp, DmB.nil⟩
    · obtain ⟨k, e1, e2⟩ := wfS_inv_seq h hc
      obtain ⟨a1, a2, a3, a4⟩ := ih (i + 1) p q k e1 hp
      rw [wd_seq hc, wd_seq hc]
      simp only
      rw [a1, a2]
      obtain ⟨b1, b2, b3, b4⟩ := ih k (jn R n p (wd c R n V T f (i + 1) p).2.1) (jn R n q (wd c R n V' T' f (i + 1) q).2.1) j e2 (A.mono hp a3)
      refine ⟨b1, b2, ?_, a4.app b4⟩
      split
      · exact A.mono a3 b3
      · exact b3
    · obtain ⟨e1, e2⟩ := wfS_inv_eq h hc
      obtain ⟨a1, a2, a3, a4⟩ := condW_mono (cs := c) A hV e2 hp
      rw [wd_eq hc, wd_eq hc]
      exact ⟨a1, a2, a4, DmB.one a3⟩
    · obtain ⟨k, m, e1, e2, e3⟩ := wfS_inv_i h hc
      obtain ⟨a1, a2, a3, a4⟩ := condW_mono (cs := c) A hV e1 hp
      rw [wd_i hc, wd_i hc]
      simp only
      rw [a1, a2]
      obtain ⟨b1, b2, b3, b4⟩ := ih k _ _ m e2 a3
      rw [b1, b2]
      obtain ⟨d1, d2, d3, d4⟩ := ih m _ _ j e3 a3
      exact ⟨d1, d2, A.mono a4 (A.mono b3 d3), b4.app d4⟩
    · obtain ⟨k, e1, e2⟩ := wfS_inv_w h hc
      obtain ⟨a1, a2, a3, a4⟩ := condW_mono (cs := c) A hV e1 hp
      rw [wd_w hc, wd_w hc]
      simp only
      rw [a1, a2]
      have hrr := A.mono a3 a4
      obtain ⟨b1, b2, b3, b4⟩ := ih k _ _ j e2 hrr
      exact ⟨b1, b2, A.mono a4 b3, (ih k _ _ j e2 (A.mono hrr b3)).2.2.2⟩
    · obtain ⟨e1, e2, rfl⟩ := wfS_inv_r h hc
      obtain ⟨d, ed, hd⟩ := isDB_nat e1
      rw [wd_r hc, wd_r hc, ed]
      exact ⟨rfl, rfl, A.mono hp (A.refl hd), (DmB.one (b := q) hp).app (DmB.one (A.mono hp (A.refl hd)))⟩
    · obtain ⟨e1, e2⟩ := wfS_inv_o h hc
      obtain ⟨a1, a2, a3, a4⟩ := condW_mono (cs := c) A hV e2 hp
      rw [wd_o hc, wd_o hc]
      exact ⟨a1, a2, a4, DmB.one a3⟩
    · obtain ⟨e1, rfl⟩ := wfS_inv_c h hc
      obtain ⟨d, ed, hd⟩ := isDB_nat e1
      rw [wd_c hc, wd_c hc, ed]
      exact ⟨rfl, rfl, A.mono hp (hT d hd), DmB.one hp⟩
end

/-! The height of a labelling. -/
def cntB (P : Nat → Bool) : Nat → Nat
  | 0 => 0
  | m + 1 => cntB P m + if P m = true then 1 else 0
theorem cntB_top (P : Nat → Bool) : ∀ m, cntB P m ≤ m := by
  intro m
  induction m with
  | zero => exact Nat.le_refl _
  | succ m ih => simp only [cntB]; split <;> omega
theorem cntB_le {P Q : Nat → Bool} : ∀ m, (∀ k, k < m → P k = true → Q k = true) → cntB P m ≤ cntB Q m := by
  intro m
  induction m with
  | zero => intro _; exact Nat.le_refl _
  | succ m ih =>
    intro h
    have h1 := ih (fun k hk => h k (by omega))
    have h2 := h m (by omega)
    simp only [cntB]
    by_cases hp : P m = true
    · rw [if_pos hp, if_pos (h2 hp)]; omega
    · rw [if_neg hp]; split <;> omega
theorem cntB_lt {P Q : Nat → Bool} {x : Nat} : ∀ m, (∀ k, k < m → P k = true → Q k = true) → x < m → P x = false → Q x = true → cntB P m < cntB Q m := by
  intro m
  induction m with
  | zero => intro _ hx; omega
  | succ m ih =>
    intro h hx hp hq
    simp only [cntB]
    by_cases e : x = m
    · subst e
      have h1 := cntB_le x (fun k hk => h k (by omega))
      rw [if_neg (by rw [hp]; simp), if_pos hq]; omega
    · have h1 := ih (fun k hk => h k (by omega)) (by omega) hp hq
      have h2 := h m (by omega)
      by_cases hp : P m = true
      · rw [if_pos hp, if_pos (h2 hp)]; omega
      · rw [if_neg hp]; split <;> omega
def rk (R : Nat → Nat → Bool) (n a : Nat) : Nat := cntB (fun b => R b a) n
def sm (R : Nat → Nat → Bool) (n : Nat) (F : Nat → Nat) : Nat → Nat
  | 0 => 0
  | m + 1 => sm R n F m + rk R n (F m)
section
variable {R : Nat → Nat → Bool} {n m a b : Nat} {F G : Nat → Nat}
theorem rk_top : rk R n a ≤ n := cntB_top _ _
theorem rk_le (A : Lat n R) (h : Le R n a b) : rk R n a ≤ rk R n b := cntB_le n (fun _ hk hr => (A.trans ⟨hr, hk, h.2.1⟩ h).1)
theorem rk_lt (A : Lat n R) (h : Le R n a b) (hne : a ≠ b) : rk R n a < rk R n b := by
  refine cntB_lt (x := b) n (fun _ hk hr => (A.trans ⟨hr, hk, h.2.1⟩ h).1) h.2.2 ?_ (A.refl h.2.2).1
  cases e : R b a
  · rfl
  · exact absurd (A.anti h ⟨e, h.2.2, h.2.1⟩) hne
theorem sm_top : sm R n F m ≤ m * n := by
  induction m with
  | zero => simp [sm]
  | succ m ih =>
    simp only [sm]
    have := rk_top (R := R) (n := n) (a := F m)
    rw [Nat.succ_mul]; omega
theorem sm_le (A : Lat n R) : ∀ m, Bel R n m F G → sm R n F m ≤ sm R n G m := by
  intro m
  induction m with
  | zero => intro _; exact Nat.le_refl _
  | succ m ih =>
    intro h
    have h1 := ih (fun k hk => h k (by omega))
    have h2 := rk_le A (h m (by omega))
    simp only [sm]; omega
theorem sm_lt (A : Lat n R) {x : Nat} : ∀ m, Bel R n m F G → x < m → F x ≠ G x → sm R n F m < sm R n G m := by
  intro m
  induction m with
  | zero => intro _ hx; omega
  | succ m ih =>
    intro h hx hne
    simp only [sm]
    by_cases e : x = m
    · subst e
      have h1 := sm_le A x (fun k hk => h k (by omega))
      have h2 := rk_lt A (h x (by omega)) hne
      omega
    · have h1 := ih (fun k hk => h k (by omega)) (by omega) hne
      have h2 := rk_le A (h m (by omega))
      omega
end
/-- A labelling's height. -/
def mH (R : Nat → Nat → Bool) (n nv np : Nat) (st : WS) : Nat := sm R n st.V nv + sm R n st.X np + sm R n st.T np

end Go.Proofs.Ytfcflnnleadpkaa

namespace Go.Proofs.Ytfcflnnleadpkaa

/-- A demand that is met by raising. -/
def soft (fx : Nat → Int) : Tgt → Prop
  | .lev _ => False
  | .var v => fx v < 0
  | .ctx _ => True
def Sat (R : Nat → Nat → Bool) (n : Nat) (fx : Nat → Int) (V X : Nat → Nat) (ds : List Dm) : Prop := ∀ d ∈ ds, soft fx d.tg → Le R n d.a (tgv V X d.tg)

section
variable {c : Nat → Int} {R : Nat → Nat → Bool} {n nv np : Nat} {V T X V' T' X' : Nat → Nat} {fx : Nat → Int} {st r : WS} {i p : Nat}

theorem Sat.nil : Sat R n fx V X [] := fun d hd => by simp at hd
theorem Sat.app {a b : List Dm} (h : Sat R n fx V X a) (k : Sat R n fx V X b) : Sat R n fx V X (a ++ b) := by
  intro d hd
  rcases List.mem_append.1 hd with hd | hd
  · exact h d hd
  · exact k d hd
theorem Sat.fst {a b : List Dm} (h : Sat R n fx V X (a ++ b)) : Sat R n fx V X a := fun d hd => h d (List.mem_append.2 (Or.inl hd))
theorem Sat.snd {a b : List Dm} (h : Sat R n fx V X (a ++ b)) : Sat R n fx V X b := fun d hd => h d (List.mem_append.2 (Or.inr hd))
theorem Sat.one {d : Dm} (h : soft fx d.tg → Le R n d.a (tgv V X d.tg)) : Sat R n fx V X [d] := fun e he => by rw [List.mem_singleton.1 he]; exact h
theorem Sat.lev {i a d : Nat} : Sat R n fx V X [⟨i, a, .lev d⟩] := Sat.one (fun h => False.elim h)
theorem Sat.get {d : Dm} (h : Sat R n fx V X [d]) (k : soft fx d.tg) : Le R n d.a (tgv V X d.tg) := h d (List.mem_singleton.2 rfl) k

/-- The labelling rose (throws aside), and no level of the text's. -/
structure Ris (R : Nat → Nat → Bool) (n nv np : Nat) (fx : Nat → Int) (st r : WS) : Prop where
  V : Bel R n nv st.V r.V
  X : Bel R n np st.X r.X
  T : r.T = st.T
  ra : st.ra = true → r.ra = true
  fx : ∀ k, 0 ≤ fx k → r.V k = st.V k
theorem Ris.put (A : Lat n R) (h : InR n nv np st) (b : Int) : Ris R n nv np fx st (putB st b) := ⟨Bel.refl A h.V, Bel.refl A h.X, rfl, fun h => h, fun _ _ => rfl⟩
theorem Ris.rfl (A : Lat n R) (h : InR n nv np st) : Ris R n nv np fx st st := Ris.put A h st.bad
theorem Ris.trans (A : Lat n R) {s : WS} (h : Ris R n nv np fx st r) (k : Ris R n nv np fx r s) : Ris R n nv np fx st s :=
  ⟨h.V.trans A k.V, h.X.trans A k.X, k.T.trans h.T, fun e => k.ra (h.ra e), fun j hj => (k.fx j hj).trans (h.fx j hj)⟩
theorem Ris.mH (A : Lat n R) (hr : InR n nv np st) (h : Ris R n nv np fx st r) : mH R n nv np st ≤ mH R n nv np r := by
  have h1 := sm_le A nv h.V
  have h2 := sm_le A np h.X
  unfold Go.Proofs.Ytfcflnnleadpkaa.mH
  rw [h.T]
  have := hr.T
  omega
theorem Bel.set (A : Lat n R) {m v x : Nat} {F : Nat → Nat} (hF : ∀ k, k < m → F k < n) (h : Le R n (F v) x) : Bel R n m F (setF F v x) := by
  intro k hk
  unfold setF
  split
  · rename_i e; rw [e]; exact h
  · exact A.refl (hF k hk)
theorem Bel.setU {m v x : Nat} {F G : Nat → Nat} (h : Bel R n m F G) (hx : Le R n x (G v)) : Bel R n m (setF F v x) G := by
  intro k hk
  unfold setF
  split
  · rename_i e; rw [e]; exact hx
  · exact h k hk

/-- Still, or raised. -/
def SR (R : Nat → Nat → Bool) (n nv np : Nat) (st r : WS) (S : Prop) : Prop := ((∃ b, r = putB st b) ∧ S) ∨ (r.ra = true ∧ mH R n nv np st < mH R n nv np r)

theorem atLW_low (A : Lat n R) (hr : InR n nv np st) {v a k : Nat} (hv : v < nv) (ha : a < n) :
    Ris R n nv np fx st (atLW R n fx true false st v a k) ∧ SR R n nv np st (atLW R n fx true false st v a k) (fx v < 0 → Le R n a (st.V v)) ∧
    (Bel R n nv st.V V' → (fx v < 0 → Le R n a (V' v)) → Bel R n nv (atLW R n fx true false st v a k).V V') ∧ (atLW R n fx true false st v a k).X = st.X := by
  unfold atLW
  rw [if_neg (by simp)]
  by_cases hf : fx v < 0
  · rw [if_pos ⟨rfl, hf⟩]
    have hl := A.l (hr.V v hv) ha
    by_cases hj : jn R n (st.V v) a = st.V v
    · rw [if_pos hj]
      exact ⟨Ris.rfl A hr, Or.inl ⟨⟨st.bad, rfl⟩, fun _ => A.of_jn (hr.V v hv) ha hj⟩, fun h _ => h, rfl⟩
    · rw [if_neg hj]
      have hb : Bel R n nv st.V (setF st.V v (jn R n (st.V v) a)) := Bel.set A hr.V hl
      refine ⟨⟨hb, Bel.refl A hr.X, rfl, fun _ => rfl, fun k hk => ?_⟩, Or.inr ⟨rfl, ?_⟩, fun h h2 => ?_, rfl⟩
      · show setF st.V v _ k = st.V k
        unfold setF; rw [if_neg (fun e => by rw [e] at hk; omega)]
      · have h3 := sm_lt A nv hb hv (by unfold setF; rw [if_pos rfl]; exact fun e => hj e.symm)
        unfold Go.Proofs.Ytfcflnnleadpkaa.mH
        simp only
        omega
      · exact h.setU (A.sup (h v hv) (h2 hf))
  · rw [if_neg (fun h => hf h.2), demW_put]
    exact ⟨Ris.put A hr _, Or.inl ⟨⟨_, rfl⟩, fun h => absurd h hf⟩, fun h _ => h, rfl⟩
theorem callW_low (A : Lat n R) (hr : InR n nv np st) {v a k : Nat} (hv : v < np) (ha : a < n) :
    Ris R n nv np fx st (callW R n true false st v a k) ∧ SR R n nv np st (callW R n true false st v a k) (Le R n a (st.X v)) ∧
    (Bel R n np st.X X' → Le R n a (X' v) → Bel R n np (callW R n true false st v a k).X X') ∧ (callW R n true false st v a k).V = st.V := by
  unfold callW
  rw [if_pos ⟨rfl, rfl⟩]
  have hl := A.l (hr.X v hv) ha
  by_cases hj : jn R n (st.X v) a = st.X v
  · rw [if_pos hj]
    exact ⟨Ris.rfl A hr, Or.inl ⟨⟨st.bad, rfl⟩, A.of_jn (hr.X v hv) ha hj⟩, fun h _ => h, rfl⟩
  · rw [if_neg hj]
    have hb : Bel R n np st.X (setF st.X v (jn R n (st.X v) a)) := Bel.set A hr.X hl
    refine ⟨⟨Bel.refl A hr.V, hb, rfl, fun _ => rfl, fun _ _ => rfl⟩, Or.inr ⟨rfl, ?_⟩, fun h h2 => h.setU (A.sup (h v hv) h2), rfl⟩
    have h3 := sm_lt A np hb hv (by unfold setF; rw [if_pos rfl]; exact fun e => hj e.symm)
    unfold Go.Proofs.Ytfcflnnleadpkaa.mH
    simp only
    omega

/-- A look that raises: the labelling rises. -/
theorem wkS_rise (A : Lat n R) : ∀ (f i p j : Nat) (st : WS), wfS c nv n np f i = (j, false) → p < n → InR n nv np st → Ris R n nv np fx st (wkS c R n fx true f false i p st).2.2 := by
  intro f
  induction f with
  | zero => intro i p j st h; simp [wfS] at h
  | succ f ih =>
    intro i p j st h hp hr
    rcases wfS_letter h with hc | hc | hc | hc | hc | hc | hc | hc
    · rcases hc with hc | hc
      · rw [wkS_dot hc]; exact Ris.rfl A hr
      · rw [wkS_x hc]; exact Ris.rfl A hr
    · obtain ⟨k, e1, e2⟩ := wfS_inv_seq h hc
      obtain ⟨a1, a2, a3⟩ := wkS_ok (fx := fx) (low := true) A.L A.n1 f false (i + 1) p k st e1 hp hr
      have a4 := ih (i + 1) p k st e1 hp hr
      rw [wkS_seq hc, a1]
      exact a4.trans A (ih k _ j _ e2 (A.lt hp a2) a3)
    · obtain ⟨e1, e2⟩ := wfS_inv_eq h hc
      obtain ⟨a1, a2, a3⟩ := condW_ok (c := c) A.L A.n1 hr.V hp e2
      obtain ⟨k, ek, hk⟩ := isVar_nat e1
      rw [wkS_eq hc]
      exact (atLW_low (V' := st.V) A hr (by rw [ek]; exact hk) a2).1
    · obtain ⟨k, m, e1, e2, e3⟩ := wfS_inv_i h hc
      obtain ⟨a1, a2, a3⟩ := condW_ok (c := c) A.L A.n1 hr.V hp e1
      rw [wkS_i hc]
      simp only
      rw [a1]
      obtain ⟨b1, b2, b3⟩ := wkS_ok (fx := fx) (low := true) A.L A.n1 f false k _ m st e2 a2 hr
      rw [b1]
      exact (ih k _ m st e2 a2 hr).trans A (ih m _ j _ e3 a2 b3)
    · obtain ⟨k, e1, e2⟩ := wfS_inv_w h hc
      obtain ⟨a1, a2, a3⟩ := condW_ok (c := c) A.L A.n1 hr.V hp e1
      rw [wkS_w hc]
      simp only
      rw [a1, wkS_mute]
      simp only [Bool.false_eq_true, if_false]
      have hrr := A.lt a2 a3
      have hd := wd_ok (c := c) A.L A.n1 hr.V hr.T f k _ j e2 hrr
      exact ih k _ j st e2 (A.lt hrr hd.2.1) hr
    · obtain ⟨e1, e2, rfl⟩ := wfS_inv_r h hc
      obtain ⟨d, ed, hd⟩ := isDB_nat e1
      obtain ⟨k, ek, hk⟩ := isVar_nat e2
      rw [wkS_r hc, ed, ek, demW_put]
      have h1 : InR n nv np (putB st (if R p d = false ∧ (st.bad < 0 ∨ (i : Int) < st.bad) then (i : Int) else st.bad)) := ⟨hr.V, hr.X, hr.T⟩
      exact (Ris.put A hr _).trans A (atLW_low (V' := st.V) A h1 hk (A.lt hp hd)).1
    · rw [wkS_o hc, demW_put]
      exact Ris.put A hr _
    · obtain ⟨e1, rfl⟩ := wfS_inv_c h hc
      obtain ⟨d, ed, hd⟩ := isDB_nat e1
      rw [wkS_c hc, ed]
      exact (callW_low (X' := st.X) (k := i) A hr hd hp).1

/-- A look that raises stays below what fits. -/
theorem wkS_under (A : Lat n R) : ∀ (f i p q j : Nat) (st : WS), wfS c nv n np f i = (j, false) → p < n → InR n nv np st → Bel R n nv st.V V' → Bel R n np st.X X' → Bel R n np st.T T' → Le R n p q →
    Sat R n fx V' X' (wd c R n V' T' f i q).2.2 →
    Bel R n nv (wkS c R n fx true f false i p st).2.2.V V' ∧ Bel R n np (wkS c R n fx true f false i p st).2.2.X X' ∧ Le R n (wkS c R n fx true f false i p st).2.1 (wd c R n V' T' f i q).2.1 := by
  intro f
  induction f with
  | zero => intro i p q j st h; simp [wfS] at h
  | succ f ih =>
    intro i p q j st h hp hr hV hX hT hpq
    have hV' : ∀ k, k < nv → V' k < n := fun k hk => (hV k hk).2.2
    have hT' : ∀ k, k < np → T' k < n := fun k hk => (hT k hk).2.2
    rcases wfS_letter h with hc | hc | hc | hc | hc | hc | hc | hc
    · rcases hc with hc | hc
      · rw [wkS_dot hc, wd_dot hc]; exact fun _ => ⟨hV, hX, A.refl (bot_lt A.n1)⟩
      · rw [wkS_x hc, wd_x hc]; exact fun _ => ⟨hV, hX, hpq⟩
    · obtain ⟨k, e1, e2⟩ := wfS_inv_seq h hc
      obtain ⟨a1, a2, a3⟩ := wkS_ok (fx := fx) (low := true) A.L A.n1 f false (i + 1) p k st e1 hp hr
      have w1 := (wd_ok (c := c) A.L A.n1 hV' hT' f (i + 1) q k e1 hpq.2.2).1
      rw [wkS_seq hc, wd_seq hc, a1]
      simp only
      rw [w1]
      intro hs
      obtain ⟨b1, b2, b3⟩ := ih (i + 1) p q k st e1 hp hr hV hX hT hpq hs.fst
      have hri := wkS_rise (fx := fx) (c := c) A f (i + 1) p k st e1 hp hr
      obtain ⟨d1, d2, d3⟩ := ih k _ _ j _ e2 (A.lt hp a2) a3 b1 b2 (by rw [hri.T]; exact hT) (A.mono hpq b3) hs.snd
      refine ⟨d1, d2, ?_⟩
      split
      · exact A.mono b3 d3
      · exact d3
    · obtain ⟨e1, e2⟩ := wfS_inv_eq h hc
      obtain ⟨a1, a2, a3⟩ := condW_ok (c := c) A.L A.n1 hr.V hp e2
      obtain ⟨m1, m2, m3, m4⟩ := condW_mono (cs := c) A hV e2 hpq
      obtain ⟨k, ek, hk⟩ := isVar_nat e1
      rw [wkS_eq hc, wd_eq hc, ek]
      intro hs
      obtain ⟨b1, b2, b3, b4⟩ := atLW_low (V' := V') (fx := fx) (k := i) A hr (v := ((k : Int)).toNat) hk a2
      refine ⟨b3 hV (fun hf => A.trans m3 (hs.get hf)), by simp only; rw [b4]; exact hX, m4⟩
    · obtain ⟨k, m, e1, e2, e3⟩ := wfS_inv_i h hc
      obtain ⟨a1, a2, a3⟩ := condW_ok (c := c) A.L A.n1 hr.V hp e1
      obtain ⟨m1, m2, m3, m4⟩ := condW_mono (cs := c) A hV e1 hpq
      rw [wkS_i hc, wd_i hc]
      simp only
      rw [m1, m2]
      obtain ⟨b1, b2, b3⟩ := wkS_ok (fx := fx) (low := true) A.L A.n1 f false k _ m st e2 a2 hr
      have w1 := (wd_ok (c := c) A.L A.n1 hV' hT' f k _ m e2 m3.2.2).1
      rw [b1, w1]
      intro hs
      obtain ⟨d1, d2, d3⟩ := ih k _ _ m st e2 a2 hr hV hX hT m3 hs.fst
      have hri := wkS_rise (fx := fx) (c := c) A f k _ m st e2 a2 hr
      obtain ⟨f1, f2, f3⟩ := ih m _ _ j _ e3 a2 b3 d1 d2 (by rw [hri.T]; exact hT) m3 hs.snd
      exact ⟨f1, f2, A.mono m4 (A.mono d3 f3)⟩
    · obtain ⟨k, e1, e2⟩ := wfS_inv_w h hc
      obtain ⟨a1, a2, a3⟩ := condW_ok (c := c) A.L A.n1 hr.V hp e1
      obtain ⟨m1, m2, m3, m4⟩ := condW_mono (cs := c) A hV e1 hpq
      rw [wkS_w hc, wd_w hc]
      simp only
      rw [m1, m2, wkS_mute]
      simp only [Bool.false_eq_true, if_false]
      have hrr := A.mono m3 m4
      obtain ⟨w1, w2, w3, w4⟩ := wd_mono (c := c) A hV hT f k _ _ j e2 hrr
      intro hs
      obtain ⟨d1, d2, d3⟩ := ih k _ _ j st e2 (A.lt hrr.2.1 w3.2.1) hr hV hX hT (A.mono hrr w3) hs
      exact ⟨d1, d2, A.mono m4 w3⟩
    · obtain ⟨e1, e2, rfl⟩ := wfS_inv_r h hc
      obtain ⟨d, ed, hd⟩ := isDB_nat e1
      obtain ⟨k, ek, hk⟩ := isVar_nat e2
      rw [wkS_r hc, wd_r hc, ed, ek, demW_put]
      intro hs
      have h1 : InR n nv np (putB st (if R p ((d : Int)).toNat = false ∧ (st.bad < 0 ∨ (i : Int) < st.bad) then (i : Int) else st.bad)) := ⟨hr.V, hr.X, hr.T⟩
      obtain ⟨b1, b2, b3, b4⟩ := atLW_low (V' := V') (fx := fx) (k := i) A h1 (v := ((k : Int)).toNat) hk (A.lt hp hd)
      have hm := A.mono hpq (A.refl hd)
      refine ⟨b3 hV (fun hf => A.trans hm (hs ⟨i, jn R n q d, .var k⟩ (by simp) hf)), ?_, hm⟩
      have e4 : (atLW R n fx true false (putB st (if R p ((d : Int)).toNat = false ∧ (st.bad < 0 ∨ (i : Int) < st.bad) then (i : Int) else st.bad)) ((k : Int)).toNat (jn R n p ((d : Int)).toNat) i).X = st.X := b4
      simp only
      rw [e4]; exact hX
    · obtain ⟨e1, e2⟩ := wfS_inv_o h hc
      obtain ⟨m1, m2, m3, m4⟩ := condW_mono (cs := c) A hV e2 hpq
      rw [wkS_o hc, wd_o hc, demW_put]
      exact fun _ => ⟨hV, hX, m4⟩
    · obtain ⟨e1, rfl⟩ := wfS_inv_c h hc
      obtain ⟨d, ed, hd⟩ := isDB_nat e1
      rw [wkS_c hc, wd_c hc, ed]
      intro hs
      obtain ⟨b1, b2, b3, b4⟩ := callW_low (X' := X') (fx := fx) (k := i) A hr (v := ((d : Int)).toNat) hd hp
      refine ⟨?_, b3 hX (A.trans hpq (hs.get trivial)), A.mono hpq (hT d hd)⟩
      simp only
      rw [b4]; exact hV

/-- A look that raises: nothing was to be raised, or something was. -/
theorem wkS_still (A : Lat n R) : ∀ (f i p j : Nat) (st : WS), wfS c nv n np f i = (j, false) → p < n → InR n nv np st →
    SR R n nv np st (wkS c R n fx true f false i p st).2.2 ((wkS c R n fx true f false i p st).2.1 = (wd c R n st.V st.T f i p).2.1 ∧ Sat R n fx st.V st.X (wd c R n st.V st.T f i p).2.2) := by
  intro f
  induction f with
  | zero => intro i p j st h; simp [wfS] at h
  | succ f ih =>
    intro i p j st h hp hr
    rcases wfS_letter h with hc | hc | hc | hc | hc | hc | hc | hc
    · rcases hc with hc | hc
      · rw [wkS_dot hc, wd_dot hc]; exact Or.inl ⟨⟨st.bad, rfl⟩, rfl, Sat.nil⟩
      · rw [wkS_x hc, wd_x hc]; exact Or.inl ⟨⟨st.bad, rfl⟩, rfl, Sat.nil⟩
    · obtain ⟨k, e1, e2⟩ := wfS_inv_seq h hc
      obtain ⟨a1, a2, a3⟩ := wkS_ok (fx := fx) (low := true) A.L A.n1 f false (i + 1) p k st e1 hp hr
      have hri := wkS_rise (fx := fx) (c := c) A f (i + 1) p k st e1 hp hr
      have hri2 := wkS_rise (fx := fx) (c := c) A f k _ j _ e2 (A.lt hp a2) a3
      have w1 := (wd_ok (c := c) A.L A.n1 hr.V hr.T f (i + 1) p k e1 hp).1
      rw [wkS_seq hc, wd_seq hc, a1]
      simp only
      rw [w1]
      rcases ih (i + 1) p k st e1 hp hr with ⟨⟨b, eb⟩, g1, g2⟩ | ⟨g1, g2⟩
      · have h1 : InR n nv np (putB st b) := ⟨hr.V, hr.X, hr.T⟩
        rcases ih k (jn R n p (wkS c R n fx true f false (i + 1) p st).2.1) j (putB st b) e2 (A.lt hp a2) h1 with ⟨⟨b', eb'⟩, f1, f2⟩ | ⟨f1, f2⟩
        · rw [eb]
          rw [g1] at eb' f1 f2
          refine Or.inl ⟨⟨b', by rw [g1]; exact eb'⟩, ?_, g2.app f2⟩
          rw [g1, f1]; rfl
        · rw [eb]; exact Or.inr ⟨f1, f2⟩
      · exact Or.inr ⟨hri2.ra g1, Nat.lt_of_lt_of_le g2 (hri2.mH A a3)⟩
    · obtain ⟨e1, e2⟩ := wfS_inv_eq h hc
      obtain ⟨a1, a2, a3⟩ := condW_ok (c := c) A.L A.n1 hr.V hp e2
      obtain ⟨k, ek, hk⟩ := isVar_nat e1
      rw [wkS_eq hc, wd_eq hc, ek]
      rcases (atLW_low (V' := st.V) (fx := fx) (k := i) A hr (v := ((k : Int)).toNat) hk a2).2.1 with ⟨g1, g2⟩ | g
      · exact Or.inl ⟨g1, rfl, Sat.one g2⟩
      · exact Or.inr g
    · obtain ⟨k, m, e1, e2, e3⟩ := wfS_inv_i h hc
      obtain ⟨a1, a2, a3⟩ := condW_ok (c := c) A.L A.n1 hr.V hp e1
      rw [wkS_i hc, wd_i hc]
      simp only
      rw [a1]
      obtain ⟨b1, b2, b3⟩ := wkS_ok (fx := fx) (low := true) A.L A.n1 f false k _ m st e2 a2 hr
      have w1 := (wd_ok (c := c) A.L A.n1 hr.V hr.T f k _ m e2 a2).1
      rw [b1, w1]
      have hri2 := wkS_rise (fx := fx) (c := c) A f m _ j _ e3 a2 b3
      rcases ih k _ m st e2 a2 hr with ⟨⟨b, eb⟩, g1, g2⟩ | ⟨g1, g2⟩
      · have h1 : InR n nv np (putB st b) := ⟨hr.V, hr.X, hr.T⟩
        rw [eb]
        rcases ih m _ j (putB st b) e3 a2 h1 with ⟨⟨b', eb'⟩, f1, f2⟩ | ⟨f1, f2⟩
        · refine Or.inl ⟨⟨b', eb'⟩, ?_, g2.app f2⟩
          rw [g1, f1]; rfl
        · exact Or.inr ⟨f1, f2⟩
      · exact Or.inr ⟨hri2.ra g1, Nat.lt_of_lt_of_le g2 (hri2.mH A b3)⟩
    · obtain ⟨k, e1, e2⟩ := wfS_inv_w h hc
      obtain ⟨a1, a2, a3⟩ := condW_ok (c := c) A.L A.n1 hr.V hp e1
      rw [wkS_w hc, wd_w hc]
      simp only
      rw [a1, wkS_mute]
      simp only [Bool.false_eq_true, if_false]
      have hrr := A.lt a2 a3
      have hd := wd_ok (c := c) A.L A.n1 hr.V hr.T f k _ j e2 hrr
      rcases ih k _ j st e2 (A.lt hrr hd.2.1) hr with ⟨g0, g1, g2⟩ | g
      · exact Or.inl ⟨g0, trivial, g2⟩
      · exact Or.inr g
    · obtain ⟨e1, e2, rfl⟩ := wfS_inv_r h hc
      obtain ⟨d, ed, hd⟩ := isDB_nat e1
      obtain ⟨k, ek, hk⟩ := isVar_nat e2
      rw [wkS_r hc, wd_r hc, ed, ek, demW_put]
      have h1 : InR n nv np (putB st (if R p ((d : Int)).toNat = false ∧ (st.bad < 0 ∨ (i : Int) < st.bad) then (i : Int) else st.bad)) := ⟨hr.V, hr.X, hr.T⟩
      rcases (atLW_low (V' := st.V) (fx := fx) (k := i) A h1 (v := ((k : Int)).toNat) hk (A.lt hp hd)).2.1 with ⟨⟨b, g1⟩, g2⟩ | g
      · refine Or.inl ⟨⟨b, by simp only; rw [show (d : Int).toNat = d from rfl] at g1 ⊢; rw [g1]; rfl⟩, rfl, (Sat.lev (i := i) (a := p) (d := d)).app (Sat.one g2)⟩
      · exact Or.inr g
    · rw [wkS_o hc, wd_o hc, demW_put]
      exact Or.inl ⟨⟨_, rfl⟩, rfl, Sat.lev⟩
    · obtain ⟨e1, rfl⟩ := wfS_inv_c h hc
      obtain ⟨d, ed, hd⟩ := isDB_nat e1
      rw [wkS_c hc, wd_c hc, ed]
      rcases (callW_low (X' := st.X) (fx := fx) (k := i) A hr (v := ((d : Int)).toNat) hd hp).2.1 with ⟨g1, g2⟩ | g
      · exact Or.inl ⟨g1, rfl, Sat.one (fun _ => g2)⟩
      · exact Or.inr g
end

end Go.Proofs.Ytfcflnnleadpkaa

namespace Go.Proofs.Ytfcflnnleadpkaa

def fxE (E : Env) : Nat → Int := fixV (bt E.s) E.n
/-- The table's row of the main statement; of a procedure. -/
def tdM (E : Env) (f : Nat) (V T : Nat → Nat) : Nat × Nat × List Dm := wd (bt E.s) E.R E.n V T f E.main (bot E.R E.n)
def tdP (E : Env) (f : Nat) (V X T : Nat → Nat) (k : Nat) : Nat × Nat × List Dm := wd (bt E.s) E.R E.n V T f (E.P k).toNat (X k)
/-- Every demand of the program. -/
def allD (E : Env) (f : Nat) (V X T : Nat → Nat) : Nat → List Dm
  | 0 => (tdM E f V T).2.2
  | k + 1 => allD E f V X T k ++ (tdP E f V X T k).2.2
/-- Are the throws high enough? -/
def okT (E : Env) (f : Nat) (V X T : Nat → Nat) : Nat → Bool
  | 0 => true
  | k + 1 => okT E f V X T k && decide (jn E.R E.n (tdP E f V X T k).2.1 (T k) = T k)
/-- The demands that raising meets, and the throws, hold. -/
structure SoftW (E : Env) (f : Nat) (V X T : Nat → Nat) : Prop where
  dem : Sat E.R E.n (fxE E) V X (allD E f V X T E.np)
  thr : ∀ k, k < E.np → Le E.R E.n (tdP E f V X T k).2.1 (T k)
/-- All of them hold. -/
structure FitW (E : Env) (f : Nat) (V X T : Nat → Nat) : Prop where
  dem : ∀ d ∈ allD E f V X T E.np, E.R d.a (tgv V X d.tg) = true
  thr : ∀ k, k < E.np → jn E.R E.n (tdP E f V X T k).2.1 (T k) = T k

section
variable {E : Env} {f : Nat} {st : WS} {V X T V' X' T' : Nat → Nat}

theorem allTo_flat (hl : E.low = false) (st : WS) : ∀ k, allTo E f st k = (okT E f st.V st.X st.T k, putB st (bdF E.R st.V st.X (allD E f st.V st.X st.T k) st.bad)) := by
  intro k
  induction k with
  | zero => simp only [allTo]; unfold wk; rw [hl, wkS_flat]; rfl
  | succ k ih =>
    simp only [allTo]
    rw [ih]
    unfold thrS thrR
    simp only
    unfold wk
    rw [hl, wkS_flat]
    simp only [allD, okT, Bool.false_eq_true, if_false]
    rw [bdF_append]
    have e : (wd (bt E.s) E.R E.n (putB st (bdF E.R st.V st.X (allD E f st.V st.X st.T k) st.bad)).V (putB st (bdF E.R st.V st.X (allD E f st.V st.X st.T k) st.bad)).T f (E.P k).toNat ((putB st (bdF E.R st.V st.X (allD E f st.V st.X st.T k) st.bad)).X k)) = tdP E f st.V st.X st.T k := rfl
    rw [e]
    have e2 : (putB (putB st (bdF E.R st.V st.X (allD E f st.V st.X st.T k) st.bad)) (bdF E.R (putB st (bdF E.R st.V st.X (allD E f st.V st.X st.T k) st.bad)).V (putB st (bdF E.R st.V st.X (allD E f st.V st.X st.T k) st.bad)).X (tdP E f st.V st.X st.T k).2.2 (putB st (bdF E.R st.V st.X (allD E f st.V st.X st.T k) st.bad)).bad)).T k = st.T k := rfl
    rw [e2]
    by_cases h : jn E.R E.n (tdP E f st.V st.X st.T k).2.1 (st.T k) = st.T k
    · rw [if_pos h, decide_eq_true h, Bool.and_true]; rfl
    · rw [if_neg h, decide_eq_false h, Bool.and_false]; rfl

theorem bd1_neg {R : Nat → Nat → Bool} {d : Dm} {b : Int} (hb : b < 0) : bd1 R V X d b < 0 ↔ R d.a (tgv V X d.tg) = true := by
  unfold bd1
  cases h : R d.a (tgv V X d.tg)
  · rw [if_pos ⟨rfl, Or.inl hb⟩]; simp
  · rw [if_neg (by simp)]; simp [hb]
theorem bdF_pos {R : Nat → Nat → Bool} : ∀ (ds : List Dm) (b : Int), 0 ≤ b → 0 ≤ bdF R V X ds b := by
  intro ds
  induction ds with
  | nil => intro b h; exact h
  | cons d ds ih =>
    intro b h
    refine ih _ ?_
    unfold bd1
    split <;> omega
/-- No bad place: every demand holds. -/
theorem bdF_neg {R : Nat → Nat → Bool} : ∀ (ds : List Dm) (b : Int), b < 0 → (bdF R V X ds b < 0 ↔ ∀ d ∈ ds, R d.a (tgv V X d.tg) = true) := by
  intro ds
  induction ds with
  | nil => intro b hb; simp [bdF, hb]
  | cons d ds ih =>
    intro b hb
    simp only [bdF, List.forall_mem_cons]
    by_cases h : bd1 R V X d b < 0
    · rw [ih _ h, bd1_neg hb] at *
      exact ⟨fun h2 => ⟨h, h2⟩, fun h2 => h2.2⟩
    · have h1 := bdF_pos (R := R) (V := V) (X := X) ds (bd1 R V X d b) (by omega)
      have h2 : ¬ R d.a (tgv V X d.tg) = true := fun e => h ((bd1_neg (R := R) (V := V) (X := X) (d := d) hb).2 e)
      constructor
      · intro h3; omega
      · intro h3; exact absurd h3.1 h2
/-- The first bad place: some demand there does not hold, and none ahead of it. -/
theorem bdF_least {R : Nat → Nat → Bool} : ∀ (ds : List Dm) (b : Int), 
    (∀ d ∈ ds, R d.a (tgv V X d.tg) = false → bdF R V X ds b ≤ (d.pl : Int)) ∧ (0 ≤ b → bdF R V X ds b ≤ b) ∧ (bdF R V X ds b = b ∨ ∃ d ∈ ds, R d.a (tgv V X d.tg) = false ∧ bdF R V X ds b = (d.pl : Int)) := by
  intro ds
  induction ds with
  | nil => intro b; exact ⟨fun d hd => by simp at hd, fun _ => Int.le_refl _, Or.inl rfl⟩
  | cons d ds ih =>
    intro b
    obtain ⟨h1, h2, h3⟩ := ih (bd1 R V X d b)
    have hle : 0 ≤ b → bd1 R V X d b ≤ b := by intro hb; unfold bd1; split <;> omega
    have hge : 0 ≤ b → 0 ≤ bd1 R V X d b := by intro hb; unfold bd1; split <;> omega
    have hd : R d.a (tgv V X d.tg) = false → bd1 R V X d b ≤ (d.pl : Int) ∧ 0 ≤ bd1 R V X d b := by
      intro hf
      unfold bd1
      by_cases hb : b < 0 ∨ (d.pl : Int) < b
      · rw [if_pos ⟨hf, hb⟩]; omega
      · rw [if_neg (fun h => hb h.2)]; omega
    refine ⟨fun e he hf => ?_, fun hb => ?_, ?_⟩
    · rcases List.mem_cons.1 he with he | he
      · subst he
        have := hd hf
        have := h2 this.2
        simp only [bdF]; omega
      · exact h1 e he hf
    · have := h2 (hge hb)
      have := hle hb
      simp only [bdF]; omega
    · rcases h3 with h3 | ⟨e, he, hf, h3⟩
      · by_cases hf : R d.a (tgv V X d.tg) = false ∧ (b < 0 ∨ (d.pl : Int) < b)
        · right
          refine ⟨d, List.mem_cons.2 (Or.inl rfl), hf.1, ?_⟩
          simp only [bdF]; rw [h3]; unfold bd1; rw [if_pos hf]
        · left
          simp only [bdF]; rw [h3]; unfold bd1; rw [if_neg hf]
      · exact Or.inr ⟨e, List.mem_cons.2 (Or.inr he), hf, h3⟩
theorem okT_iff : ∀ k, okT E f V X T k = true ↔ ∀ j, j < k → jn E.R E.n (tdP E f V X T j).2.1 (T j) = T j := by
  intro k
  induction k with
  | zero => simp [okT]
  | succ k ih =>
    simp only [okT, Bool.and_eq_true, decide_eq_true_eq]
    rw [ih]
    constructor
    · intro h j hj
      by_cases e : j = k
      · rw [e]; exact h.2
      · exact h.1 j (by omega)
    · intro h
      exact ⟨fun j hj => h j (by omega), h k (by omega)⟩
theorem fitW_iff : FitW E f V X T ↔ okT E f V X T E.np = true ∧ bdF E.R V X (allD E f V X T E.np) (-1) < 0 := by
  rw [okT_iff, bdF_neg _ _ (by omega)]
  exact ⟨fun h => ⟨h.thr, h.dem⟩, fun h => ⟨h.2, h.1⟩⟩

/-- The labelling rose. -/
structure RisA (E : Env) (st r : WS) : Prop where
  V : Bel E.R E.n E.nv st.V r.V
  X : Bel E.R E.n E.np st.X r.X
  T : Bel E.R E.n E.np st.T r.T
  ra : st.ra = true → r.ra = true
  fx : ∀ k, 0 ≤ fxE E k → r.V k = st.V k
theorem RisA.mH (A : Lat E.n E.R) {r : WS} (h : RisA E st r) : mH E.R E.n E.nv E.np st ≤ mH E.R E.n E.nv E.np r := by
  have h1 := sm_le A E.nv h.V
  have h2 := sm_le A E.np h.X
  have h3 := sm_le A E.np h.T
  unfold Go.Proofs.Ytfcflnnleadpkaa.mH
  omega
theorem RisA.trans (A : Lat E.n E.R) {r s : WS} (h : RisA E st r) (k : RisA E r s) : RisA E st s :=
  ⟨h.V.trans A k.V, h.X.trans A k.X, h.T.trans A k.T, fun e => k.ra (h.ra e), fun j hj => (k.fx j hj).trans (h.fx j hj)⟩
theorem Ris.risA (A : Lat E.n E.R) {r : WS} (hr : InR E.n E.nv E.np st) (h : Ris E.R E.n E.nv E.np (fxE E) st r) : RisA E st r :=
  ⟨h.V, h.X, by rw [h.T]; exact Bel.refl A hr.T, h.ra, h.fx⟩

/-- What one procedure's throw does. -/
theorem thrR_low (A : Lat E.n E.R) (hl : E.low = true) {k t : Nat} {b : Bool} (hk : k < E.np) (ht : t < E.n) (hr : InR E.n E.nv E.np st) :
    InR E.n E.nv E.np (thrR E k b t st).2 ∧ RisA E st (thrR E k b t st).2 ∧ SR E.R E.n E.nv E.np st (thrR E k b t st).2 (Le E.R E.n t (st.T k)) ∧
    (thrR E k b t st).2.V = st.V ∧ (thrR E k b t st).2.X = st.X ∧ (Bel E.R E.n E.np st.T T' → Le E.R E.n t (T' k) → Bel E.R E.n E.np (thrR E k b t st).2.T T') := by
  unfold thrR
  by_cases h : jn E.R E.n t (st.T k) = st.T k
  · rw [if_pos h]
    exact ⟨hr, ⟨Bel.refl A hr.V, Bel.refl A hr.X, Bel.refl A hr.T, fun h => h, fun _ _ => rfl⟩, Or.inl ⟨⟨st.bad, rfl⟩, A.of_jn' ht (hr.T k hk) h⟩, rfl, rfl, fun h _ => h⟩
  · rw [if_neg h, if_pos hl]
    have hb : Bel E.R E.n E.np st.T (setF st.T k (jn E.R E.n t (st.T k))) := Bel.set A hr.T (A.r ht (hr.T k hk))
    refine ⟨⟨hr.V, hr.X, fun j hj => (hb j hj).2.2⟩, ⟨Bel.refl A hr.V, Bel.refl A hr.X, hb, fun _ => rfl, fun _ _ => rfl⟩, Or.inr ⟨rfl, ?_⟩, rfl, rfl, fun h1 h2 => h1.setU (A.sup h2 (h1 k hk))⟩
    have h3 := sm_lt A E.np hb hk (by unfold setF; rw [if_pos rfl]; exact fun e => h e.symm)
    unfold Go.Proofs.Ytfcflnnleadpkaa.mH
    simp only
    omega

/-- Every statement once, raising. -/
theorem allTo_low (A : Lat E.n E.R) (Q : Parts E f) (hl : E.low = true) (hr : InR E.n E.nv E.np st) : ∀ k, k ≤ E.np →
    InR E.n E.nv E.np (allTo E f st k).2 ∧ RisA E st (allTo E f st k).2 ∧
    SR E.R E.n E.nv E.np st (allTo E f st k).2 (Sat E.R E.n (fxE E) st.V st.X (allD E f st.V st.X st.T k) ∧ ∀ j, j < k → Le E.R E.n (tdP E f st.V st.X st.T j).2.1 (st.T j)) ∧
    (Bel E.R E.n E.nv st.V V' → Bel E.R E.n E.np st.X X' → Bel E.R E.n E.np st.T T' → Sat E.R E.n (fxE E) V' X' (allD E f V' X' T' k) → (∀ j, j < k → Le E.R E.n (tdP E f V' X' T' j).2.1 (T' j)) →
      Bel E.R E.n E.nv (allTo E f st k).2.V V' ∧ Bel E.R E.n E.np (allTo E f st k).2.X X' ∧ Bel E.R E.n E.np (allTo E f st k).2.T T') := by
  intro k
  induction k with
  | zero =>
    intro _
    obtain ⟨j, hj⟩ := Q.main
    have hb := bot_lt (R := E.R) A.n1
    have h1 := wkS_ok (fx := fxE E) (low := true) (c := bt E.s) A.L A.n1 f false E.main (bot E.R E.n) j st hj hb hr
    have h2 := wkS_rise (fx := fxE E) (c := bt E.s) A f E.main (bot E.R E.n) j st hj hb hr
    have h3 := wkS_still (fx := fxE E) (c := bt E.s) A f E.main (bot E.R E.n) j st hj hb hr
    have e : (allTo E f st 0).2 = (wkS (bt E.s) E.R E.n (fxE E) true f false E.main (bot E.R E.n) st).2.2 := by simp only [allTo]; unfold wk; rw [hl]; rfl
    rw [e]
    refine ⟨h1.2.2, h2.risA A hr, ?_, fun hV hX hT hs _ => ?_⟩
    · rcases h3 with ⟨g1, g2, g3⟩ | g
      · exact Or.inl ⟨g1, g3, fun j hj => by omega⟩
      · exact Or.inr g
    · have h4 := wkS_under (fx := fxE E) (c := bt E.s) (V' := V') (X' := X') (T' := T') A f E.main (bot E.R E.n) (bot E.R E.n) j st hj hb hr hV hX hT (A.refl hb) hs
      exact ⟨h4.1, h4.2.1, by rw [h2.T]; exact hT⟩
  | succ k ih =>
    intro hk
    obtain ⟨i1, i2, i3, i4⟩ := ih (by omega)
    obtain ⟨m, j, em, hj⟩ := Q.proc k (by omega)
    have em' : (E.P k).toNat = m := by omega
    obtain ⟨r, er⟩ : ∃ r, (allTo E f st k).2 = r := ⟨_, rfl⟩
    rw [er] at i1 i2 i3 i4
    have hx := i1.X k (by omega)
    have h1 := wkS_ok (fx := fxE E) (low := true) (c := bt E.s) A.L A.n1 f false m (r.X k) j r hj hx i1
    have h2 := wkS_rise (fx := fxE E) (c := bt E.s) A f m (r.X k) j r hj hx i1
    have h3 := wkS_still (fx := fxE E) (c := bt E.s) A f m (r.X k) j r hj hx i1
    obtain ⟨y, ey⟩ : ∃ y, wkS (bt E.s) E.R E.n (fxE E) true f false m (r.X k) r = y := ⟨_, rfl⟩
    have e : ∃ b, (allTo E f st (k + 1)).2 = (thrR E k b y.2.1 y.2.2).2 := by
      refine ⟨(allTo E f st k).1, ?_⟩
      simp only [allTo]
      unfold thrS wk
      rw [hl, er, em', ← ey]; rfl
    obtain ⟨b, e⟩ := e
    rw [e]
    rw [ey] at h1 h2 h3
    obtain ⟨t1, t2, t3, t4, t5, t6⟩ := thrR_low (T' := T') (b := b) A hl (by omega : k < E.np) h1.2.1 h1.2.2
    refine ⟨t1, (i2.trans A (h2.risA A i1)).trans A t2, ?_, fun hV hX hT hs ht => ?_⟩
    · have hm := (h2.risA A i1).mH A
      have hm2 := t2.mH A
      rcases i3 with ⟨⟨b1, g1⟩, g2, g3⟩ | ⟨g1, g2⟩
      · rcases h3 with ⟨⟨b2, f1⟩, f2, f3⟩ | ⟨f1, f2⟩
        · rcases t3 with ⟨⟨b3, s1⟩, s2⟩ | ⟨s1, s2⟩
          · refine Or.inl ⟨⟨b3, by rw [s1, f1, g1]; rfl⟩, ?_, fun l hl2 => ?_⟩
            · refine g2.app ?_
              rw [g1] at f3
              unfold tdP
              rw [em']
              exact f3
            · by_cases el : l = k
              · subst el
                unfold tdP
                rw [em']
                rw [f2, f1, g1] at s2
                exact s2
              · exact g3 l (by omega)
          · refine Or.inr ⟨s1, ?_⟩
            have e3 : mH E.R E.n E.nv E.np y.2.2 = mH E.R E.n E.nv E.np st := by rw [f1, g1]; rfl
            rw [e3] at s2
            exact s2
        · refine Or.inr ⟨t2.ra f1, ?_⟩
          rw [g1] at f2
          exact Nat.lt_of_lt_of_le f2 hm2
      · exact Or.inr ⟨t2.ra (h2.ra g1), by omega⟩
    · obtain ⟨p1, p2, p3⟩ := i4 hV hX hT hs.fst (fun l hl2 => ht l (by omega))
      have hs2 : Sat E.R E.n (fxE E) V' X' (wd (bt E.s) E.R E.n V' T' f m (X' k)).2.2 := by
        have := hs.snd
        unfold tdP at this
        rw [em'] at this
        exact this
      have h4 := wkS_under (fx := fxE E) (c := bt E.s) (V' := V') (X' := X') (T' := T') A f m (r.X k) (X' k) j r hj hx i1 p1 p2 p3 (p2 k (by omega)) hs2
      rw [ey] at h4
      refine ⟨by rw [t4]; exact h4.1, by rw [t5]; exact h4.2.1, t6 (by rw [h2.T]; exact p3) ?_⟩
      refine A.trans h4.2.2 ?_
      have := ht k (by omega)
      unfold tdP at this
      rw [em'] at this
      exact this
end

end Go.Proofs.Ytfcflnnleadpkaa

namespace Go.Proofs.Ytfcflnnleadpkaa

/-- The text's levels are kept. -/
def Fixd (E : Env) (V : Nat → Nat) : Prop := ∀ k, k < E.nv → 0 ≤ fxE E k → (V k : Int) = fxE E k
/-- The lowest labelling. -/
structure LowOk (E : Env) (f : Nat) (V X T : Nat → Nat) : Prop where
  iv : ∀ k, k < E.nv → V k < E.n
  ix : ∀ k, k < E.np → X k < E.n
  it : ∀ k, k < E.np → T k < E.n
  fx : Fixd E V
  soft : SoftW E f V X T
  least : ∀ V' X' T', (∀ k, k < E.nv → V' k < E.n) → (∀ k, k < E.np → X' k < E.n) → (∀ k, k < E.np → T' k < E.n) → Fixd E V' → SoftW E f V' X' T' →
    Bel E.R E.n E.nv V V' ∧ Bel E.R E.n E.np X X' ∧ Bel E.R E.n E.np T T'

section
variable {E : Env} {f : Nat} {st : WS} {V X T V' X' T' : Nat → Nat}

/-- The environment that raises. -/
def upE (E : Env) : Env := { E with low := true }
theorem Parts.up (Q : Parts E f) : Parts (upE E) f := ⟨Q.main, Q.proc⟩

theorem allD_up : ∀ k, allD (upE E) f V X T k = allD E f V X T k := by
  intro k
  induction k with
  | zero => rfl
  | succ k ih => simp only [allD]; rw [ih]; rfl
theorem sat_up {k : Nat} : Sat (upE E).R (upE E).n (fxE (upE E)) V X (allD (upE E) f V X T k) = Sat E.R E.n (fxE E) V X (allD E f V X T k) := by rw [allD_up]; rfl

/-- One round. -/
theorem stepW_low (A : Lat E.n E.R) (Q : Parts E f) (hr : InR E.n E.nv E.np st) :
    InR E.n E.nv E.np (stepW E f st) ∧ RisA E st { stepW E f st with ra := true } ∧
    (((stepW E f st).ra = false ∧ SoftW E f (stepW E f st).V (stepW E f st).X (stepW E f st).T) ∨ ((stepW E f st).ra = true ∧ mH E.R E.n E.nv E.np st < mH E.R E.n E.nv E.np (stepW E f st))) ∧
    (Bel E.R E.n E.nv st.V V' → Bel E.R E.n E.np st.X X' → Bel E.R E.n E.np st.T T' → SoftW E f V' X' T' →
      Bel E.R E.n E.nv (stepW E f st).V V' ∧ Bel E.R E.n E.np (stepW E f st).X X' ∧ Bel E.R E.n E.np (stepW E f st).T T') := by
  have hr0 : InR (upE E).n (upE E).nv (upE E).np (rsW st) := ⟨hr.V, hr.X, hr.T⟩
  obtain ⟨h1, h2, h3, h4⟩ := allTo_low (E := upE E) (V' := V') (X' := X') (T' := T') (st := rsW st) A Q.up rfl hr0 E.np (Nat.le_refl _)
  have e : (allTo (upE E) f (rsW st) E.np).2 = stepW E f st := rfl
  rw [e] at h1 h2 h3 h4
  refine ⟨h1, ⟨h2.V, h2.X, h2.T, fun _ => rfl, h2.fx⟩, ?_, fun hV hX hT hs => h4 hV hX hT (by rw [sat_up]; exact hs.dem) hs.thr⟩
  rcases h3 with ⟨⟨b, g1⟩, g2, g3⟩ | ⟨g1, g2⟩
  · refine Or.inl ⟨by rw [g1]; rfl, ?_⟩
    rw [g1]
    rw [sat_up] at g2
    exact ⟨g2, g3⟩
  · exact Or.inr ⟨g1, g2⟩

theorem mH_top (hn : E.n ≤ 8) (hv : E.nv ≤ 8) (hp : E.np ≤ 4) : mH E.R E.n E.nv E.np st ≤ 128 := by
  have h1 := sm_top (R := E.R) (n := E.n) (F := st.V) (m := E.nv)
  have h2 := sm_top (R := E.R) (n := E.n) (F := st.X) (m := E.np)
  have h3 := sm_top (R := E.R) (n := E.n) (F := st.T) (m := E.np)
  have a1 : E.nv * E.n ≤ 8 * 8 := Nat.mul_le_mul hv hn
  have a2 : E.np * E.n ≤ 4 * 8 := Nat.mul_le_mul hp hn
  unfold Go.Proofs.Ytfcflnnleadpkaa.mH
  omega

/-- The rounds. -/
theorem lowR_low (A : Lat E.n E.R) (Q : Parts E f) (hn : E.n ≤ 8) (hv : E.nv ≤ 8) (hp : E.np ≤ 4) : ∀ (g : Nat) (b : Bool) (st : WS), InR E.n E.nv E.np st →
    (b = false → SoftW E f st.V st.X st.T) → (b = true → 129 ≤ mH E.R E.n E.nv E.np st + g) →
    InR E.n E.nv E.np (lowR E f g b st) ∧ (∀ k, 0 ≤ fxE E k → (lowR E f g b st).V k = st.V k) ∧ SoftW E f (lowR E f g b st).V (lowR E f g b st).X (lowR E f g b st).T ∧
    (Bel E.R E.n E.nv st.V V' → Bel E.R E.n E.np st.X X' → Bel E.R E.n E.np st.T T' → SoftW E f V' X' T' →
      Bel E.R E.n E.nv (lowR E f g b st).V V' ∧ Bel E.R E.n E.np (lowR E f g b st).X X' ∧ Bel E.R E.n E.np (lowR E f g b st).T T') := by
  intro g
  induction g with
  | zero =>
    intro b st hr h1 h2
    have ht := mH_top (st := st) hn hv hp
    cases b
    · exact ⟨hr, fun _ _ => rfl, h1 rfl, fun a b c _ => ⟨a, b, c⟩⟩
    · have := h2 rfl; omega
  | succ g ih =>
    intro b st hr h1 h2
    cases b
    · exact ⟨hr, fun _ _ => rfl, h1 rfl, fun a b c _ => ⟨a, b, c⟩⟩
    · have h2 := h2 rfl
      obtain ⟨s1, s2, s3, s4⟩ := stepW_low (V' := V') (X' := X') (T' := T') A Q hr
      have e : lowR E f (g + 1) true st = lowR E f g (stepW E f st).ra (stepW E f st) := rfl
      rw [e]
      obtain ⟨i1, i2, i3, i4⟩ := ih (stepW E f st).ra (stepW E f st) s1
        (fun h => by
          rcases s3 with g1 | g1
          · exact g1.2
          · rw [g1.1] at h; cases h)
        (fun h => by
          rcases s3 with g1 | g1
          · rw [g1.1] at h; cases h
          · omega)
      refine ⟨i1, fun k hk => (i2 k hk).trans (s2.fx k hk), i3, fun a b c d => ?_⟩
      obtain ⟨p1, p2, p3⟩ := s4 a b c d
      exact i4 p1 p2 p3 d

theorem lowW_ok (A : Lat E.n E.R) (Q : Parts E f) (hn : E.n ≤ 8) (hv : E.nv ≤ 8) (hp : E.np ≤ 4) : LowOk E f (lowW E f).V (lowW E f).X (lowW E f).T := by
  have h := fun V' X' T' => lowR_low (V' := V') (X' := X') (T' := T') A Q hn hv hp 129 true (st0 E) (st0_in A.n1) (fun h => by cases h) (fun _ => by omega)
  obtain ⟨h1, h2, h3, _⟩ := h (st0 E).V (st0 E).X (st0 E).T
  refine ⟨h1.V, h1.X, h1.T, fun k hk hf => ?_, h3, fun V' X' T' hV hX hT hF hS => ?_⟩
  · have := h2 k hf
    show (((lowR E f 129 true (st0 E)).V k : Nat) : Int) = _
    rw [this]
    show ((v0 E k : Nat) : Int) = _
    have hf' : 0 ≤ fixV (bt E.s) E.n k := hf
    unfold v0
    rw [if_pos hf']
    show (((fixV (bt E.s) E.n k).toNat : Nat) : Int) = fixV (bt E.s) E.n k
    omega
  · refine (h V' X' T').2.2.2 (fun k hk => ?_) (fun k hk => A.bl (hX k hk)) (fun k hk => A.bl (hT k hk)) hS
    show Le E.R E.n (v0 E k) (V' k)
    unfold v0
    split
    · rename_i hf
      have := hF k hk hf
      have e : (fixV (bt E.s) E.n k).toNat = V' k := by
        have h5 : (V' k : Int) = fixV (bt E.s) E.n k := this
        omega
      rw [e]
      exact A.refl (hV k hk)
    · exact A.bl (hV k hk)

/-- There is one lowest labelling. -/
theorem LowOk.uniq (A : Lat E.n E.R) (h : LowOk E f V X T) (h' : LowOk E f V' X' T') : (∀ k, k < E.nv → V k = V' k) ∧ (∀ k, k < E.np → X k = X' k) ∧ ∀ k, k < E.np → T k = T' k := by
  obtain ⟨a1, a2, a3⟩ := h.least V' X' T' h'.iv h'.ix h'.it h'.fx h'.soft
  obtain ⟨b1, b2, b3⟩ := h'.least V X T h.iv h.ix h.it h.fx h.soft
  exact ⟨fun k hk => A.anti (a1 k hk) (b1 k hk), fun k hk => A.anti (a2 k hk) (b2 k hk), fun k hk => A.anti (a3 k hk) (b3 k hk)⟩

/-- Higher labels: each demand of the program is of no less. -/
theorem allD_mono (A : Lat E.n E.R) (Q : Parts E f) (hV : Bel E.R E.n E.nv V V') (hX : Bel E.R E.n E.np X X') (hT : Bel E.R E.n E.np T T') : ∀ k, k ≤ E.np → DmB E.R E.n (allD E f V X T k) (allD E f V' X' T' k) := by
  intro k
  induction k with
  | zero =>
    intro _
    obtain ⟨j, hj⟩ := Q.main
    exact (wd_mono (c := bt E.s) A hV hT f E.main _ _ j hj (A.refl (bot_lt A.n1))).2.2.2
  | succ k ih =>
    intro hk
    obtain ⟨m, j, em, hj⟩ := Q.proc k (by omega)
    have em' : (E.P k).toNat = m := by omega
    refine (ih (by omega)).app ?_
    unfold tdP
    rw [em']
    exact (wd_mono (c := bt E.s) A hV hT f m _ _ j hj (hX k (by omega))).2.2.2
theorem allD_in (A : Lat E.n E.R) (Q : Parts E f) (hV : ∀ k, k < E.nv → V k < E.n) (hX : ∀ k, k < E.np → X k < E.n) (hT : ∀ k, k < E.np → T k < E.n) : ∀ k, k ≤ E.np → ∀ d ∈ allD E f V X T k, d.a < E.n ∧ TgOk E.n E.nv E.np d.tg := by
  intro k
  induction k with
  | zero =>
    intro _
    obtain ⟨j, hj⟩ := Q.main
    exact (wd_ok (c := bt E.s) A.L A.n1 hV hT f E.main _ j hj (bot_lt A.n1)).2.2
  | succ k ih =>
    intro hk d hd
    obtain ⟨m, j, em, hj⟩ := Q.proc k (by omega)
    have em' : (E.P k).toNat = m := by omega
    rcases List.mem_append.1 hd with hd | hd
    · exact ih (by omega) d hd
    · unfold tdP at hd
      rw [em'] at hd
      exact (wd_ok (c := bt E.s) A.L A.n1 hV hT f m _ j hj (hX k (by omega))).2.2 d hd
theorem tdP_in (A : Lat E.n E.R) (Q : Parts E f) (hV : ∀ k, k < E.nv → V k < E.n) (hX : ∀ k, k < E.np → X k < E.n) (hT : ∀ k, k < E.np → T k < E.n) {k : Nat} (hk : k < E.np) : (tdP E f V X T k).2.1 < E.n := by
  obtain ⟨m, j, em, hj⟩ := Q.proc k hk
  have em' : (E.P k).toNat = m := by omega
  unfold tdP
  rw [em']
  exact (wd_ok (c := bt E.s) A.L A.n1 hV hT f m _ j hj (hX k hk)).2.1
theorem tgv_in (hV : ∀ k, k < E.nv → V k < E.n) (hX : ∀ k, k < E.np → X k < E.n) {tg : Tgt} (h : TgOk E.n E.nv E.np tg) : tgv V X tg < E.n := by
  cases tg with
  | lev d => exact h
  | var v => exact hV v h
  | ctx k => exact hX k h
/-- What fits is met by raising. -/
theorem FitW.soft (A : Lat E.n E.R) (Q : Parts E f) (hV : ∀ k, k < E.nv → V k < E.n) (hX : ∀ k, k < E.np → X k < E.n) (hT : ∀ k, k < E.np → T k < E.n) (h : FitW E f V X T) : SoftW E f V X T := by
  refine ⟨fun d hd _ => ?_, fun k hk => A.of_jn' (tdP_in A Q hV hX hT hk) (hT k hk) (h.thr k hk)⟩
  have := allD_in A Q hV hX hT E.np (Nat.le_refl _) d hd
  exact ⟨h.dem d hd, this.1, tgv_in hV hX this.2⟩
/-- Where some labelling fits, the lowest does. -/
theorem LowOk.fit (A : Lat E.n E.R) (Q : Parts E f) (h : LowOk E f V X T) (hV : ∀ k, k < E.nv → V' k < E.n) (hX : ∀ k, k < E.np → X' k < E.n) (hT : ∀ k, k < E.np → T' k < E.n) (hF : Fixd E V') (hf : FitW E f V' X' T') :
    FitW E f V X T ∧ Bel E.R E.n E.nv V V' ∧ Bel E.R E.n E.np X X' ∧ Bel E.R E.n E.np T T' := by
  obtain ⟨b1, b2, b3⟩ := h.least V' X' T' hV hX hT hF (hf.soft A Q hV hX hT)
  refine ⟨⟨fun d hd => ?_, fun k hk => A.jn_eq' (h.soft.thr k hk)⟩, b1, b2, b3⟩
  have hin := allD_in A Q h.iv h.ix h.it E.np (Nat.le_refl _) d hd
  have hin2 := hin.2
  obtain ⟨e, he, e1, _, e3⟩ := allD_mono A Q b1 b2 b3 E.np (Nat.le_refl _) d hd
  have hd2 := hf.dem e he
  have hle : Le E.R E.n d.a (tgv V' X' d.tg) := by
    have h2 := tgv_in (V := V') (X := X') hV hX hin2
    exact A.trans e3 ⟨by rw [← e1]; exact hd2, e3.2.2, h2⟩
  cases et : d.tg with
  | lev x => rw [et] at hle; exact hle.1
  | ctx k => have := h.soft.dem d hd (by rw [et]; exact trivial); rw [et] at this; exact this.1
  | var v =>
    by_cases hs : fxE E v < 0
    · have := h.soft.dem d hd (by rw [et]; exact hs)
      rw [et] at this; exact this.1
    · rw [et] at hin2 hle
      have h1 := h.fx v hin2 (by omega)
      have h2 := hF v hin2 (by omega)
      have e : V v = V' v := by omega
      show E.R d.a (V v) = true
      rw [e]
      exact hle.1
/-- The lowest fits where no demand of it fails. -/
theorem LowOk.fits (A : Lat E.n E.R) (h : LowOk E f V X T) (hb : bdF E.R V X (allD E f V X T E.np) (-1) < 0) : FitW E f V X T :=
  ⟨(bdF_neg _ _ (by omega)).1 hb, fun k hk => A.jn_eq' (h.soft.thr k hk)⟩
end

end Go.Proofs.Ytfcflnnleadpkaa

namespace Go.Proofs.Ytfcflnnleadpkaa
open Go.RowKit

/-- A program, wherever it lies. -/
def pE (R : Nat → Nat → Bool) (s : ByteArray) (n : Nat) : Env :=
  { wb := 0, pb := 0, lb := 0, ob := 0, g := 0, cap := 0, n := n, nv := prNv s n, np := (prPs s n).length, main := prNv s n + 1, gv := 0, cv := 0, gx := 0, cx := 0, gt := 0, ct := 0, gf := 0, cf := 0, gp := 0, cp := 0,
    rb := fun _ => 0, R := R, s := s, low := false, P := fun k => (((prPs s n).getD k 0 : Nat) : Int), B := 0 }
/-- The same program, maybe elsewhere. -/
structure Same (E E' : Env) : Prop where
  s : E.s = E'.s
  R : E.R = E'.R
  n : E.n = E'.n
  nv : E.nv = E'.nv
  np : E.np = E'.np
  main : E.main = E'.main
  P : E.P = E'.P
theorem stepW_same {E E' : Env} (h : Same E E') (f : Nat) (st : WS) : stepW E f st = stepW E' f st := by
  unfold stepW allW
  have e := allTo_env (E := { E' with low := true }) (E' := { E with low := true }) h.s h.R h.n rfl h.P h.main f (rsW st)
  rw [e]
  show (allTo { E' with low := true } f (rsW st) E.np).2 = _
  rw [h.np]
theorem lowR_same {E E' : Env} (h : Same E E') (f : Nat) : ∀ g b st, lowR E f g b st = lowR E' f g b st := by
  intro g
  induction g with
  | zero => intro b st; rfl
  | succ g ih => intro b st; simp only [lowR]; rw [stepW_same h, ih]
theorem st0_same {E E' : Env} (h : Same E E') : st0 E = st0 E' := by
  have hv : v0 E = v0 E' := by funext k; unfold v0; rw [h.s, h.n, h.R]
  unfold st0; rw [hv, h.R, h.n]
theorem lowW_same {E E' : Env} (h : Same E E') (f : Nat) : lowW E f = lowW E' f := by
  unfold lowW; rw [lowR_same h, st0_same h]
theorem tdP_same {E E' : Env} (h : Same E E') (f : Nat) (V X T : Nat → Nat) (k : Nat) : tdP E f V X T k = tdP E' f V X T k := by unfold tdP; rw [h.s, h.R, h.n, h.P]
theorem allD_same {E E' : Env} (h : Same E E') (f : Nat) (V X T : Nat → Nat) : ∀ k, allD E f V X T k = allD E' f V X T k := by
  intro k
  induction k with
  | zero => simp only [allD]; unfold tdM; rw [h.s, h.R, h.n, h.main]
  | succ k ih => simp only [allD]; rw [ih, tdP_same h]
theorem okT_same {E E' : Env} (h : Same E E') (f : Nat) (V X T : Nat → Nat) : ∀ k, okT E f V X T k = okT E' f V X T k := by
  intro k
  induction k with
  | zero => rfl
  | succ k ih => simp only [okT]; rw [ih, tdP_same h, h.R, h.n]

/-- The lowest labelling of a program; its first bad place. -/
def ckL (o s : ByteArray) (n : Nat) : WS := lowW (pE (cl o n) s n) (s.size + 1)
def ckD (o s : ByteArray) (n : Nat) : List Dm := allD (pE (cl o n) s n) (s.size + 1) (ckL o s n).V (ckL o s n).X (ckL o s n).T (prPs s n).length
def ckB (o s : ByteArray) (n : Nat) : Int := bdF (cl o n) (ckL o s n).V (ckL o s n).X (ckD o s n) (-1)
/-- What checking comes to: the error, the place, the number of levels. -/
def CkPost (o s : ByteArray) (e p : Int) (n : Nat) : Prop :=
  (ReadPost o e p n ∧ e ≠ 0) ∨ (ReadPost o 0 0 n ∧ prE s n ≠ 0 ∧ e = prE s n ∧ p = prP s n) ∨
  (ReadPost o 0 0 n ∧ prE s n = 0 ∧ 0 ≤ ckB o s n ∧ e = 6 ∧ p = ckB o s n) ∨ (ReadPost o 0 0 n ∧ prE s n = 0 ∧ ckB o s n < 0 ∧ e = 0 ∧ p = 0)
theorem CkPost_uniq {o s : ByteArray} {e p e' p' : Int} {n n' : Nat} (h : CkPost o s e p n) (h' : CkPost o s e' p' n') : e = e' ∧ p = p' ∧ n = n' := by
  rcases h with ⟨a, b⟩ | ⟨a, b, rfl, rfl⟩ | ⟨a, b, c, rfl, rfl⟩ | ⟨a, b, c, rfl, rfl⟩ <;>
  rcases h' with ⟨a', b'⟩ | ⟨a', b', rfl, rfl⟩ | ⟨a', b', c', rfl, rfl⟩ | ⟨a', b', c', rfl, rfl⟩ <;>
  obtain ⟨h1, h2, h3⟩ := ReadPost_uniq a a' <;> subst h3 <;> first | exact ⟨h1, h2, rfl⟩ | exact ⟨rfl, rfl, rfl⟩ | omega
/-- What the document's Check answers, and what it leaves in memory. -/
def CheckAns (o s : ByteArray) (B : Nat) (e : Ending) (w' : World) : Prop :=
  ∃ (a p : Int) (n : Nat), CkPost o s a p n ∧
    ((a ≠ 0 ∧ e = .returned (.tuple #[.pointer none, .pointer none, .int .i64 a, .int .i64 p])) ∨
     (a = 0 ∧ p = 0 ∧ ∃ E, Same E (pE (cl o n) s n) ∧ At0 E w' (ckL o s n) ∧ B ≤ E.pb ∧ B ≤ E.lb ∧ e = .returned (.tuple #[.pointer (some ⟨E.pb, 0, none⟩), .pointer (some ⟨E.lb, 0, none⟩), .int .i64 0, .int .i64 0])))

/-- What is known of a text that is read. -/
structure Known (o s : ByteArray) (n : Nat) : Prop where
  A : Lat n (cl o n)
  n8 : n ≤ 8
  sz : s.size ≤ 300
  nv : prNv s n ≤ 8
  np : (prPs s n).length ≤ 4
  Q : Parts (pE (cl o n) s n) (s.size + 1)
theorem known {o s : ByteArray} {n : Nat} (h : ReadPost o 0 0 n) (k : prE s n = 0) : Known o s n := by
  obtain ⟨h1, h2⟩ : GoodOrd o n ∧ Hm.wellR (cl o n) n = true := by
    rcases h with ⟨_, h, _⟩ | ⟨_, _, _, h, _⟩ | ⟨_, _, _, _, h, _⟩ | ⟨_, a, b, _⟩
    · omega
    · omega
    · omega
    · exact ⟨a, b⟩
  obtain ⟨p1, p2, p3, p4, p5⟩ := prE_parts k
  refine ⟨cl_lat o h1.1.2.2.1 h2, h1.1.2.2.2, p1, p2, p3, p4, fun j hj => ?_⟩
  have hj' : j < (prPs s n).length := hj
  obtain ⟨m, hm⟩ := p5 ((prPs s n).getD j 0) (by simp [hj'])
  exact ⟨_, m, rfl, hm⟩
theorem Parts.same {E E' : Env} {f : Nat} (h : Same E E') (Q : Parts E' f) : Parts E f := by
  obtain ⟨⟨j, hj⟩, hp⟩ := Q
  refine ⟨⟨j, ?_⟩, fun k hk => ?_⟩
  · unfold wf0 at hj ⊢; rw [h.s, h.nv, h.n, h.np, h.main]; exact hj
  · obtain ⟨m, j, e, hm⟩ := hp k (by rw [← h.np]; exact hk)
    refine ⟨m, j, by rw [h.P]; exact e, ?_⟩
    unfold wf0 at hm ⊢; rw [h.s, h.nv, h.n, h.np]; exact hm
theorem Known.low {o s : ByteArray} {n : Nat} (h : Known o s n) : LowOk (pE (cl o n) s n) (s.size + 1) (ckL o s n).V (ckL o s n).X (ckL o s n).T :=
  lowW_ok (E := pE (cl o n) s n) h.A h.Q h.n8 h.nv h.np

theorem PI_pg {w0 w : World} {cb pb ob g cap : Nat} {rb : Nat → Nat} {R : Nat → Nat → Bool} {s : ByteArray} {i : Nat} {bad : Bool} {n : Nat} {C : List Nat} {v pv fl : Value}
    (h : PI w0 w cb pb (.pointer (some ⟨ob, 0, none⟩)) s i bad n (prNv s n) C v (prNv s n + 1) (prPs s n) pv fl) (ho : Ord w ob g cap n rb R) :
    ∃ E, Pg E w ∧ Same E (pE R s n) ∧ E.pb = pb := by
  obtain ⟨gp, cp, ep, _, rp⟩ := own_sl h.pown (fun k hk => cells_get hk)
  obtain ⟨gf, cf, ef, _, rf'⟩ := own_sl (F := fixV (bt s) n) h.fown (fun k hk => by simp [fixL, hk])
  refine ⟨{ pE R s n with pb := pb, ob := ob, g := g, cap := cap, rb := rb, gp := gp, cp := cp, gf := gf, cf := cf }, ⟨?_, ho, rf', rp⟩, ⟨rfl, rfl, rfl, rfl, rfl, rfl, rfl⟩, rfl⟩
  have := h.pr
  rw [ep, ef] at this
  exact this
theorem Ord.below {w w' : World} {o g cap n : Nat} {rb : Nat → Nat} {R : Nat → Nat → Bool} (h : Ord w o g cap n rb R) (hn : 1 ≤ n) (hb : Below w.heap.size w w') : Ord w' o g cap n rb R :=
  h.keep (hb.block _ (World.block_lt_of_cell? w _ h.cn)) (hb.block _ (World.block_lt_of_cell? w _ (h.row 0 (by omega)))) (fun i hi => hb.block _ (World.block_lt_of_cell? w _ (h.bel i 0 hi (by omega))))

end Go.Proofs.Ytfcflnnleadpkaa
