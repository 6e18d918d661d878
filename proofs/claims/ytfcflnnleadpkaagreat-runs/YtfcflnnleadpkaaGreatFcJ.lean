import Derived.Test.YtfcflnnleadpkaaGreatLfJ
namespace Go.Proofs.YtfcflnnleadpkaaGreat
open Go.RowKit
variable {D : FD} {w : World} {st : WS}

theorem Fl.setOther {b' j : Nat} {v : Value} (h : Fl D w st) (hb : b' ≠ D.b) : Fl D (w.setCell ⟨b', j, none⟩ v) st := by
  exact (Below.heap_setCell w _ v D.b (Ne.symm hb)).trans h
theorem Fl.alloc (h : Fl D w st) (X : Obj) : Fl D (w.alloc X) st := h.below ((Below.refl _ _).alloc (Nat.le_refl _) _)
theorem Fl.bdr (h : Fl D w st) : Fl D w.drew st := h

theorem ExOk.at {f : Nat} (H : ExOk D st f) (w : World) (x : Int) (i j : Nat) (hx : x = (i : Int)) (h : Fl D w st) (h1 : scE (bt D.s) D.nv f i = (j, false)) (h2 : tbE (bt D.s) D.nv D.T f i) :
    Calls Tryz.prog 114 #[.pointer (some ⟨D.b, 0, none⟩), .int .i64 x] w fun e w' => e = .returned (.agg (exA (labE (bt D.s) D.R D.n st.V f i))) ∧ Below w.heap.size w w' := by
  subst hx; exact H w i j h h1 h2
/-- Three new blocks. -/
theorem heap_three (w : World) (X Y Z : Obj) : (((w.alloc X).alloc Y).alloc Z).heap[w.heap.size]? = some X ∧ (((w.alloc X).alloc Y).alloc Z).heap[w.heap.size + 1]? = some Y ∧ (((w.alloc X).alloc Y).alloc Z).heap[w.heap.size + 2]? = some Z := by
  refine ⟨(heap_alloc_old _ _ (by simp; omega)).trans (heap_two w X Y).1, (heap_alloc_old _ _ (by simp)).trans (heap_two w X Y).2, ?_⟩
  have := heap_alloc_last ((w.alloc X).alloc Y) Z
  simpa using this
theorem below_three (w : World) (X Y Z : Obj) : Below w.heap.size w (((w.alloc X).alloc Y).alloc Z) := (below_two w X Y).alloc (by simp; omega) _
theorem size_three (w : World) (X Y Z : Obj) : (((w.alloc X).alloc Y).alloc Z).heap.size = w.heap.size + 3 := by simp

/-- Within an expression: the flow, the answer's block, the labels' block, those of the two parts. -/
structure EI (D : FD) (st : WS) (w w5 : World) (fb sb : Nat) (e0 : Nat) (e1 : Bool) (e2 x2 : Nat) (x4 : Bool) (x3 y2 : Nat) (y4 : Bool) (y3 : Nat) : Prop where
  fl : Fl D w5 st
  bel : Below w.heap.size w w5
  r : w5.heap[w.heap.size]? = some (.cells #[.int .i64 0, .bool false, .int .i64 0] 136 (0, 0))
  e : w5.heap[w.heap.size + 1]? = some (.cells #[.int .i64 (e0 : Int), .bool e1, .int .i64 (e2 : Int)] 136 (0, 0))
  f : w5.heap[fb]? = some (.cells #[.int .i64 (x2 : Int), .bool x4, .int .i64 (x3 : Int)] 136 (0, 0))
  s : w5.heap[sb]? = some (.cells #[.int .i64 (y2 : Int), .bool y4, .int .i64 (y3 : Int)] 136 (0, 0))
  db : D.b < w.heap.size
  nf : w.heap.size + 1 < fb
  ns : fb < sb
section
variable {w w5 : World} {fb sb e0 e2 x2 x3 y2 y3 : Nat} {e1 x4 y4 : Bool}
theorem EI.drew (h : EI D st w w5 fb sb e0 e1 e2 x2 x4 x3 y2 y4 y3) : EI D st w w5.drew fb sb e0 e1 e2 x2 x4 x3 y2 y4 y3 :=
  ⟨h.fl, h.bel.drew, h.r, h.e, h.f, h.s, h.db, h.nf, h.ns⟩
theorem EI.cell (h : EI D st w w5 fb sb e0 e1 e2 x2 x4 x3 y2 y4 y3) : (w5.cell? ⟨w.heap.size + 1, 0, none⟩ = some (.int .i64 (e0 : Int)) ∧ w5.cell? ⟨w.heap.size + 1, 1, none⟩ = some (.bool e1) ∧ w5.cell? ⟨w.heap.size + 1, 2, none⟩ = some (.int .i64 (e2 : Int))) ∧
    (w5.cell? ⟨fb, 0, none⟩ = some (.int .i64 (x2 : Int)) ∧ w5.cell? ⟨fb, 1, none⟩ = some (.bool x4) ∧ w5.cell? ⟨fb, 2, none⟩ = some (.int .i64 (x3 : Int))) ∧
    (w5.cell? ⟨sb, 0, none⟩ = some (.int .i64 (y2 : Int)) ∧ w5.cell? ⟨sb, 1, none⟩ = some (.bool y4) ∧ w5.cell? ⟨sb, 2, none⟩ = some (.int .i64 (y3 : Int))) ∧
    (w5.cell? ⟨w.heap.size, 0, none⟩ = some (.int .i64 0) ∧ w5.cell? ⟨w.heap.size, 1, none⟩ = some (.bool false) ∧ w5.cell? ⟨w.heap.size, 2, none⟩ = some (.int .i64 0)) := by
  refine ⟨⟨?_, ?_, ?_⟩, ⟨?_, ?_, ?_⟩, ⟨?_, ?_, ?_⟩, ?_, ?_, ?_⟩
  · rw [cell_of_row w5 _ 0 _ _ _ h.e]; rfl
  · rw [cell_of_row w5 _ 1 _ _ _ h.e]; rfl
  · rw [cell_of_row w5 _ 2 _ _ _ h.e]; rfl
  · rw [cell_of_row w5 _ 0 _ _ _ h.f]; rfl
  · rw [cell_of_row w5 _ 1 _ _ _ h.f]; rfl
  · rw [cell_of_row w5 _ 2 _ _ _ h.f]; rfl
  · rw [cell_of_row w5 _ 0 _ _ _ h.s]; rfl
  · rw [cell_of_row w5 _ 1 _ _ _ h.s]; rfl
  · rw [cell_of_row w5 _ 2 _ _ _ h.s]; rfl
  · rw [cell_of_row w5 _ 0 _ _ _ h.r]; rfl
  · rw [cell_of_row w5 _ 1 _ _ _ h.r]; rfl
  · rw [cell_of_row w5 _ 2 _ _ _ h.r]; rfl
theorem EI.fz (h : EI D st w w5 fb sb e0 e1 e2 x2 x4 x3 y2 y4 y3) (j : Nat) : w5.frozen? ⟨w.heap.size + 1, j, none⟩ = false ∧ w5.frozen? ⟨w.heap.size, j, none⟩ = false := ⟨frozen_of_row w5 _ j _ _ h.e, frozen_of_row w5 _ j _ _ h.r⟩
theorem EI.up {f0 f2 j : Nat} {f1 : Bool} {v : Value} (h : EI D st w w5 fb sb e0 e1 e2 x2 x4 x3 y2 y4 y3) (hr : (#[.int .i64 (e0 : Int), .bool e1, .int .i64 (e2 : Int)] : Array Value).setIfInBounds j v = #[.int .i64 (f0 : Int), .bool f1, .int .i64 (f2 : Int)]) :
    EI D st w (w5.setCell ⟨w.heap.size + 1, j, none⟩ v) fb sb f0 f1 f2 x2 x4 x3 y2 y4 y3 := by
  have h1 := h.db
  have h2 := h.nf
  have h3 := h.ns
  refine ⟨h.fl.setOther (by omega), h.bel.setCell (show w.heap.size ≤ w.heap.size + 1 by omega) v, ?_, ?_, ?_, ?_, h.db, h.nf, h.ns⟩
  · exact (Below.heap_setCell w5 _ v _ (show w.heap.size ≠ w.heap.size + 1 by omega)).trans h.r
  · rw [setCell_eq_setRow w5 _ _ _ _ _ _ h.e, hr]; exact setRow_heap w5 _ _ _ _ _ h.e
  · exact (Below.heap_setCell w5 _ v _ (show fb ≠ w.heap.size + 1 by omega)).trans h.f
  · exact (Below.heap_setCell w5 _ v _ (show sb ≠ w.heap.size + 1 by omega)).trans h.s
theorem EI.ret (h : EI D st w w5 fb sb e0 e1 e2 x2 x4 x3 y2 y4 y3) {a b c : Value} :
    (((w5.setCell ⟨w.heap.size, 0, none⟩ a).setCell ⟨w.heap.size, 1, none⟩ b).setCell ⟨w.heap.size, 2, none⟩ c).heap[w.heap.size]? = some (.cells #[a, b, c] 136 (0, 0)) ∧
    Below w.heap.size w (((w5.setCell ⟨w.heap.size, 0, none⟩ a).setCell ⟨w.heap.size, 1, none⟩ b).setCell ⟨w.heap.size, 2, none⟩ c) := by
  refine ⟨?_, ((h.bel.setCell (Nat.le_refl _) a).setCell (Nat.le_refl _) b).setCell (Nat.le_refl _) c⟩
  rw [setCell_eq_setRow w5 _ _ _ _ _ _ h.r, setCell_eq_setRow _ _ _ _ _ _ _ (setRow_heap w5 _ _ _ _ _ h.r), setCell_eq_setRow _ _ _ _ _ _ _ (setRow_heap _ _ _ _ _ _ (setRow_heap w5 _ _ _ _ _ h.r)), setRow_setRow, setRow_setRow]
  exact setRow_heap w5 _ _ _ _ _ h.r
end

set_option maxHeartbeats 2000000 in
set_option maxRecDepth 100000 in
theorem fExpr_op (O : FOk D) (hr : InR D.n D.nv D.np st) (f i j : Nat) (ih0 : ExOk D st f) (h : Fl D w st) (hsc : scE (bt D.s) D.nv (f + 1) i = (j, false)) (htb : tbE (bt D.s) D.nv D.T (f + 1) i) (ho : isOp (bt D.s i) = true) :
    Calls Tryz.prog 114 #[.pointer (some ⟨D.b, 0, none⟩), .int .i64 (i : Int)] w fun e w' => e = .returned (.agg (exA (labE (bt D.s) D.R D.n st.V (f + 1) i))) ∧ Below w.heap.size w w' := by
  have IH := hide ih0
  clear ih0
  have HH := hide h
  have k1 := h.bo O.A
  have k2 := h.tx
  have HF1 := hide (fun (X Y : Obj) => Fl.below h (show Below w.heap.size w ((w.alloc X).alloc Y).drew from ((((Below.refl _ _).alloc (Nat.le_refl _) _).alloc (by simp) _) : Below w.heap.size w ((w.alloc X).alloc Y)).drew))
  have hbz : D.b < w.heap.size := (Array.getElem?_eq_some_iff.1 h).1
  have ⟨hb0, hb1⟩ := bt_bd D.s i
  obtain ⟨k, e1, e2⟩ := scE_inv_op hsc ho
  have hi := isOp_lt ho
  have hbq := bt_eq D.s i hi
  have hi' : (i : Int) < (D.s.size : Int) := by omega
  have hi3 : (i : Int) < 300 := by have := O.sz; omega
  obtain ⟨t0, t1, tb1, tb2⟩ := htb ho
  rw [e1] at t1 tb2
  have p0 := h.pt (i := i) (k := 0) (by omega) (by omega)
  have p1 := h.pt (i := i) (k := 1) (by omega) (by omega)
  have p2 := h.pt (i := i) (k := 2) (by omega) (by omega)
  rw [t0] at p0
  rw [t1] at p1
  simp only [Nat.add_zero] at p0
  have hv : isVar D.nv (bt D.s i) = false := by
    have h9 : bt D.s i ≤ 60 := by
      have h8 := ho
      unfold isOp at h8
      simp at h8
      omega
    unfold isVar; simp; omega
  obtain ⟨a1, a2, a3⟩ := labE_ok (c := bt D.s) O.A.L O.A.n1 hr.V _ _ _ e1
  obtain ⟨b1, b2, b3⟩ := labE_ok (c := bt D.s) O.A.L O.A.n1 hr.V _ _ _ e2
  have HE := hide (labE_op (R := D.R) (n := D.n) (V := st.V) (f := f) ho)
  rw [a1] at HE
  have HT1 := hide tb1
  have HT2 := hide tb2
  have HE1 := hide e1
  have HE2 := hide e2
  clear tb1 tb2 e1 e2 hsc htb t0 t1 a1 b1
  go_enter Tryz.func114, Tryz.ntmps114
  go_wp2_with fail
  go_region
  all_goals
    go_wp2_with fail
    refine (pIsVar _ _ 134 D.nv _ (unhide HF1 _ _).cv hb0 hb1).mono ?_
    rintro e w' ⟨rfl, rfl⟩
    rw [hv]
    go_wp2_with fail
    refine (pOp _ _).mono ?_
    rintro e w' ⟨rfl, rfl⟩
    rw [ho]
    go_wp2_with fail
    refine ((unhide IH).at _ _ (i + 1) k (by omega) ((Fl.below h (below_three w _ _ _)).drew) (unhide HE1) (unhide HT1)).mono ?_
    rintro e w3 ⟨rfl, hb3⟩
    have g3 := heap_three w (.cells #[.int .i64 0, .bool false, .int .i64 0] 136) (.cells #[.int .i64 (bot D.R D.n : Nat), .bool false, .int .i64 (bot D.R D.n : Nat)] 136) (.cells #[.int .i64 ((i : Int) + 1), .int .i64 (k : Int), .int .i64 (D.T i 2)] 48)
    have g30 := (hb3.block w.heap.size (by simp; omega)).trans g3.1
    have g31 := (hb3.block (w.heap.size + 1) (by simp)).trans g3.2.1
    have g32 := (hb3.block (w.heap.size + 2) (by simp)).trans g3.2.2
    have HB3 := hide ((below_three w _ _ _).drew.trans (hb3.mono (by simp; omega)))
    have hsz3 : w.heap.size + 3 ≤ w3.heap.size := by have := hb3.size; simp at this; omega
    have hs32 : w.heap.size + 2 < w3.heap.size := by omega
    have hs31 : w.heap.size + 1 < w3.heap.size := by omega
    have hs30 : w.heap.size < w3.heap.size := by omega
    clear hb3 g3
    have HF3 := hide (Fl.below h (unhide HB3))
    have q1 : w3.cell? ⟨w.heap.size + 2, 1, none⟩ = some (.int .i64 (k : Int)) := by rw [cell_of_row w3 _ 1 _ _ _ g32]; rfl
    clear g32 p0 p1 p2 k1 k2
    generalize labE (bt D.s) D.R D.n st.V f (i + 1) = r1 at *
    obtain ⟨x1, x2, x3, x4⟩ := r1
    have hx2 : x2 < D.n := a2
    have hx3 : x3 < D.n := a3
    clear a2 a3
    unfold exA
    simp only
    go_wp2_with fail
    refine ((unhide IH).at _ _ k j rfl (Fl.below (unhide HF3) ((Below.refl _ _).alloc (Nat.le_refl _) _)) (unhide HE2) (unhide HT2)).mono ?_
    rintro e w4 ⟨rfl, hb4⟩
    have g40 := (hb4.block w.heap.size (by simp; omega)).trans ((heap_alloc_old _ _ hs30).trans g30)
    have g41 := (hb4.block (w.heap.size + 1) (by simp; omega)).trans ((heap_alloc_old _ _ hs31).trans g31)
    have g43 := (hb4.block w3.heap.size (by simp)).trans (heap_alloc_last w3 _)
    have HB4 := hide ((unhide HB3).trans (((Below.refl _ _).alloc (by omega) _).trans (hb4.mono (by simp; omega))))
    have hsz4 : w3.heap.size + 1 ≤ w4.heap.size := by have := hb4.size; simp at this; omega
    have hs43 : w3.heap.size < w4.heap.size := by omega
    have hs41 : w.heap.size + 1 < w4.heap.size := by omega
    have hs40 : w.heap.size < w4.heap.size := by omega
    have hn31 : w.heap.size + 1 ≠ w3.heap.size := by omega
    clear g30 g31 q1
    have HF4 := hide (Fl.below h (unhide HB4))
    have hsb4 : D.b < w4.heap.size := by omega
    generalize labE (bt D.s) D.R D.n st.V f k = r2 at *
    obtain ⟨y1, y2, y3, y4⟩ := r2
    have hy2 : y2 < D.n := b2
    have hy3 : y3 < D.n := b3
    clear b2 b3
    have hei : EI D st w (w4.alloc (.cells #[.int .i64 (y2 : Int), .bool y4, .int .i64 (y3 : Int)] 136)) w3.heap.size w4.heap.size (bot D.R D.n) false (bot D.R D.n) x2 x4 x3 y2 y4 y3 :=
      ⟨(unhide HF4).alloc _, (unhide HB4).alloc (by omega) _, (heap_alloc_old _ _ hs40).trans g40, (heap_alloc_old _ _ hs41).trans g41, (heap_alloc_old _ _ hs43).trans g43, heap_alloc_last w4 _, hbz, by omega, by omega⟩
    have HEI := hide hei
    have c1 := hei.cell.1
    have c2 := hei.cell.2.1
    have c3 := hei.cell.2.2.1
    have z0 := (hei.fz 0).1
    clear g40 g41 g43 hei hb4
    unfold exA
    simp only
    go_wp2_with fail
    generalize w4.alloc (.cells #[.int .i64 (y2 : Int), .bool y4, .int .i64 (y3 : Int)] 136) = w5 at *
    obtain ⟨c10, c11, c12⟩ := c1
    obtain ⟨c20, c21, c22⟩ := c2
    obtain ⟨c30, c31, c32⟩ := c3
    go_region_with (go_at_call 105; refine (fJoin O.A O.n8 (unhide HEI).fl.drew hx2 hy2).mono ?_; rintro e w' ⟨rfl, rfl⟩)
    all_goals
      have hei := ((unhide HEI).up (f0 := jn D.R D.n x2 y2) (f1 := false) (f2 := bot D.R D.n) (j := 0) (v := .int .i64 (jn D.R D.n x2 y2 : Nat)) rfl).drew
      clear HEI c10 c11 c12 c20 c21 c22 c30 c31 c32 z0
      generalize (w5.setCell ⟨w.heap.size + 1, 0, none⟩ (.int .i64 (jn D.R D.n x2 y2 : Nat))).drew = w6 at *
      have HEI := hide hei
      have ⟨⟨c10, c11, c12⟩, ⟨c20, c21, c22⟩, ⟨c30, c31, c32⟩, c40, c41, c42⟩ := hei.cell
      have z0 := (hei.fz 0).1
      have z1 := (hei.fz 1).1
      have z2 := (hei.fz 2).1
      have y0 := (hei.fz 0).2
      have yy1 := (hei.fz 1).2
      have yy2 := (hei.fz 2).2
      clear hei
      cases hc : (bt D.s i == 47)
      · have h47 : ¬ bt D.s i = 47 := by simpa using hc
        cases x4
        · have HA := hide (show Ending.returned (.agg #[.int .i64 (jn D.R D.n x2 y2 : Nat), .bool y4, .int .i64 (jn D.R D.n x3 y3 : Nat)]) = Ending.returned (.agg (exA (y1, jn D.R D.n x2 y2, if bt D.s i = 47 then jn D.R D.n (jn D.R D.n x3 y3) y2 else jn D.R D.n x3 y3, (false || y4) || (bt D.s i == 47)))) by
            unfold exA; simp only; rw [if_neg h47, hc, Bool.false_or, Bool.or_false])
          clear h47
          go_wp2_with fail
          have hei := (unhide HEI).up (f0 := jn D.R D.n x2 y2) (f1 := y4) (f2 := bot D.R D.n) (j := 1) (v := .bool y4) rfl
          clear HEI c10 c11 c12 c20 c21 c22 c30 c31 c32 c40 c41 c42 z0 z1 z2 y0 yy1 yy2
          generalize w6.setCell ⟨w.heap.size + 1, 1, none⟩ (.bool y4) = w7 at *
          have HEI := hide hei
          have ⟨⟨c10, c11, c12⟩, ⟨c20, c21, c22⟩, ⟨c30, c31, c32⟩, c40, c41, c42⟩ := hei.cell
          have z0 := (hei.fz 0).1
          have z1 := (hei.fz 1).1
          have z2 := (hei.fz 2).1
          have y0 := (hei.fz 0).2
          have yy1 := (hei.fz 1).2
          have yy2 := (hei.fz 2).2
          clear hei
          go_region_with (go_at_call 105; refine (fJoin O.A O.n8 (unhide HEI).fl.drew hx3 hy3).mono ?_; rintro e w' ⟨rfl, rfl⟩)
          all_goals
            have hei := ((unhide HEI).up (f0 := jn D.R D.n x2 y2) (f1 := y4) (f2 := jn D.R D.n x3 y3) (j := 2) (v := .int .i64 (jn D.R D.n x3 y3 : Nat)) rfl).drew
            clear HEI c10 c11 c12 c20 c21 c22 c30 c31 c32 c40 c41 c42 z0 z1 z2 y0 yy1 yy2
            generalize (w7.setCell ⟨w.heap.size + 1, 2, none⟩ (.int .i64 (jn D.R D.n x3 y3 : Nat))).drew = w8 at *
            have HEI := hide hei
            have ⟨⟨c10, c11, c12⟩, ⟨c20, c21, c22⟩, ⟨c30, c31, c32⟩, c40, c41, c42⟩ := hei.cell
            have z0 := (hei.fz 0).1
            have z1 := (hei.fz 1).1
            have z2 := (hei.fz 2).1
            have y0 := (hei.fz 0).2
            have yy1 := (hei.fz 1).2
            have yy2 := (hei.fz 2).2
            clear hei
            go_wp2_with fail
            refine bodyPost_ret (ret_ex Tryz.results114 _ _ w.heap.size _ _ _ rfl (unhide HEI).ret.1) rfl ⟨?_, (unhide HEI).ret.2⟩
            rw [unhide HE]
            exact unhide HA
        · have HA := hide (show Ending.returned (.agg #[.int .i64 (jn D.R D.n x2 y2 : Nat), .bool true, .int .i64 (jn D.R D.n x3 y3 : Nat)]) = Ending.returned (.agg (exA (y1, jn D.R D.n x2 y2, if bt D.s i = 47 then jn D.R D.n (jn D.R D.n x3 y3) y2 else jn D.R D.n x3 y3, (true || y4) || (bt D.s i == 47)))) by
            unfold exA; simp only; rw [if_neg h47, hc, Bool.true_or, Bool.or_false])
          clear h47
          go_wp2_with fail
          have hei := (unhide HEI).up (f0 := jn D.R D.n x2 y2) (f1 := true) (f2 := bot D.R D.n) (j := 1) (v := .bool true) rfl
          clear HEI c10 c11 c12 c20 c21 c22 c30 c31 c32 c40 c41 c42 z0 z1 z2 y0 yy1 yy2
          generalize w6.setCell ⟨w.heap.size + 1, 1, none⟩ (.bool true) = w7 at *
          have HEI := hide hei
          have ⟨⟨c10, c11, c12⟩, ⟨c20, c21, c22⟩, ⟨c30, c31, c32⟩, c40, c41, c42⟩ := hei.cell
          have z0 := (hei.fz 0).1
          have z1 := (hei.fz 1).1
          have z2 := (hei.fz 2).1
          have y0 := (hei.fz 0).2
          have yy1 := (hei.fz 1).2
          have yy2 := (hei.fz 2).2
          clear hei
          go_region_with (go_at_call 105; refine (fJoin O.A O.n8 (unhide HEI).fl.drew hx3 hy3).mono ?_; rintro e w' ⟨rfl, rfl⟩)
          all_goals
            have hei := ((unhide HEI).up (f0 := jn D.R D.n x2 y2) (f1 := true) (f2 := jn D.R D.n x3 y3) (j := 2) (v := .int .i64 (jn D.R D.n x3 y3 : Nat)) rfl).drew
            clear HEI c10 c11 c12 c20 c21 c22 c30 c31 c32 c40 c41 c42 z0 z1 z2 y0 yy1 yy2
            generalize (w7.setCell ⟨w.heap.size + 1, 2, none⟩ (.int .i64 (jn D.R D.n x3 y3 : Nat))).drew = w8 at *
            have HEI := hide hei
            have ⟨⟨c10, c11, c12⟩, ⟨c20, c21, c22⟩, ⟨c30, c31, c32⟩, c40, c41, c42⟩ := hei.cell
            have z0 := (hei.fz 0).1
            have z1 := (hei.fz 1).1
            have z2 := (hei.fz 2).1
            have y0 := (hei.fz 0).2
            have yy1 := (hei.fz 1).2
            have yy2 := (hei.fz 2).2
            clear hei
            go_wp2_with fail
            refine bodyPost_ret (ret_ex Tryz.results114 _ _ w.heap.size _ _ _ rfl (unhide HEI).ret.1) rfl ⟨?_, (unhide HEI).ret.2⟩
            rw [unhide HE]
            exact unhide HA
      · have h47 : bt D.s i = 47 := by simpa using hc
        have HA := hide (show Ending.returned (.agg #[.int .i64 (jn D.R D.n x2 y2 : Nat), .bool true, .int .i64 (jn D.R D.n (jn D.R D.n x3 y3) y2 : Nat)]) = Ending.returned (.agg (exA (y1, jn D.R D.n x2 y2, if bt D.s i = 47 then jn D.R D.n (jn D.R D.n x3 y3) y2 else jn D.R D.n x3 y3, (x4 || y4) || (bt D.s i == 47)))) by
            unfold exA; simp only; rw [if_pos h47, hc, Bool.or_true])
        clear h47
        go_wp2_with fail
        have hei := (unhide HEI).up (f0 := jn D.R D.n x2 y2) (f1 := true) (f2 := bot D.R D.n) (j := 1) (v := .bool true) rfl
        clear HEI c10 c11 c12 c20 c21 c22 c30 c31 c32 c40 c41 c42 z0 z1 z2 y0 yy1 yy2
        generalize w6.setCell ⟨w.heap.size + 1, 1, none⟩ (.bool true) = w7 at *
        have HEI := hide hei
        have ⟨⟨c10, c11, c12⟩, ⟨c20, c21, c22⟩, ⟨c30, c31, c32⟩, c40, c41, c42⟩ := hei.cell
        have z0 := (hei.fz 0).1
        have z1 := (hei.fz 1).1
        have z2 := (hei.fz 2).1
        have y0 := (hei.fz 0).2
        have yy1 := (hei.fz 1).2
        have yy2 := (hei.fz 2).2
        clear hei
        go_region_with (go_at_call 105; refine (fJoin O.A O.n8 (unhide HEI).fl.drew hx3 hy3).mono ?_; rintro e w' ⟨rfl, rfl⟩)
        all_goals
          have hei := ((unhide HEI).up (f0 := jn D.R D.n x2 y2) (f1 := true) (f2 := jn D.R D.n x3 y3) (j := 2) (v := .int .i64 (jn D.R D.n x3 y3 : Nat)) rfl).drew
          clear HEI c10 c11 c12 c20 c21 c22 c30 c31 c32 c40 c41 c42 z0 z1 z2 y0 yy1 yy2
          generalize (w7.setCell ⟨w.heap.size + 1, 2, none⟩ (.int .i64 (jn D.R D.n x3 y3 : Nat))).drew = w8 at *
          have HEI := hide hei
          have ⟨⟨c10, c11, c12⟩, ⟨c20, c21, c22⟩, ⟨c30, c31, c32⟩, c40, c41, c42⟩ := hei.cell
          have z0 := (hei.fz 0).1
          have z1 := (hei.fz 1).1
          have z2 := (hei.fz 2).1
          have y0 := (hei.fz 0).2
          have yy1 := (hei.fz 1).2
          have yy2 := (hei.fz 2).2
          clear hei
          go_wp2_with fail
          go_region_with (go_at_call 105; refine (fJoin O.A O.n8 (unhide HEI).fl.drew (O.A.lt hx3 hy3) hy2).mono ?_; rintro e w' ⟨rfl, rfl⟩)
          all_goals
            have hei := ((unhide HEI).up (f0 := jn D.R D.n x2 y2) (f1 := true) (f2 := jn D.R D.n (jn D.R D.n x3 y3) y2) (j := 2) (v := .int .i64 (jn D.R D.n (jn D.R D.n x3 y3) y2 : Nat)) rfl).drew
            clear HEI c10 c11 c12 c20 c21 c22 c30 c31 c32 c40 c41 c42 z0 z1 z2 y0 yy1 yy2
            generalize (w8.setCell ⟨w.heap.size + 1, 2, none⟩ (.int .i64 (jn D.R D.n (jn D.R D.n x3 y3) y2 : Nat))).drew = w9 at *
            have HEI := hide hei
            have ⟨⟨c10, c11, c12⟩, ⟨c20, c21, c22⟩, ⟨c30, c31, c32⟩, c40, c41, c42⟩ := hei.cell
            have z0 := (hei.fz 0).1
            have z1 := (hei.fz 1).1
            have z2 := (hei.fz 2).1
            have y0 := (hei.fz 0).2
            have yy1 := (hei.fz 1).2
            have yy2 := (hei.fz 2).2
            clear hei
            go_wp2_with fail
            refine bodyPost_ret (ret_ex Tryz.results114 _ _ w.heap.size _ _ _ rfl (unhide HEI).ret.1) rfl ⟨?_, (unhide HEI).ret.2⟩
            rw [unhide HE]
            exact unhide HA

theorem fExpr (O : FOk D) (hr : InR D.n D.nv D.np st) : ∀ f, ExOk D st f := by
  intro f
  induction f with
  | zero => intro w i j _ h; simp [scE] at h
  | succ f ih =>
    intro w i j h hsc htb
    cases ho : isOp (bt D.s i)
    · exact fExpr_leaf O f i j h hsc ho
    · exact fExpr_op O hr f i j ih h hsc htb ho

end Go.Proofs.YtfcflnnleadpkaaGreat
