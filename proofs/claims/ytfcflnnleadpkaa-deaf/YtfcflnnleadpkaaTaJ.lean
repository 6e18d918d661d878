import Derived.Test.YtfcflnnleadpkaaRaJ
import Derived.Laws.Rows
import Derived.Deep.WholeRow
namespace Go.Proofs.Ytfcflnnleadpkaa

/-- The join and the bottom, as numbers. -/
def jn (R : Nat → Nat → Bool) (n a b : Nat) : Nat := (Hm.joinI R n a b).toNat
def bot (R : Nat → Nat → Bool) (n : Nat) : Nat := (Hm.firstB (fun a => Hm.allB (R a) n 0) n 0).toNat
theorem Lattice.jn_lt {n : Nat} {R : Nat → Nat → Bool} (L : Lattice n R) {a b : Nat} (ha : a < n) (hb : b < n) : jn R n a b < n ∧ Hm.joinI R n a b = (jn R n a b : Int) ∧ Hm.lub R n a b (jn R n a b) = true := by
  obtain ⟨c, h1, h2, h3⟩ := L.joinN ha hb
  have e : jn R n a b = c := by unfold jn; rw [h2]; rfl
  rw [e]; exact ⟨h1, h2, h3⟩
theorem bot_lt {n : Nat} {R : Nat → Nat → Bool} (h : 1 ≤ n) : bot R n < n := by
  unfold bot
  have := Hm.firstB_lt (fun a => Hm.allB (R a) n 0) n
  omega

/-- A labelling that is being looked at: the variables' levels, the procedures' contexts and throws; whether something was raised; the first bad place. -/
structure WS where
  V : Nat → Nat
  X : Nat → Nat
  T : Nat → Nat
  ra : Bool
  bad : Int
def setF (F : Nat → Nat) (k x : Nat) : Nat → Nat := fun j => if j = k then x else F j

section
variable (c : Nat → Int) (R : Nat → Nat → Bool) (n : Nat) (fx : Nat → Int) (low : Bool)

/-- An expression: where it ends, its label, the label of its divisors, whether there are any. -/
def labE (V : Nat → Nat) : Nat → Nat → Nat × Nat × Nat × Bool
  | 0, i => (i, bot R n, bot R n, false)
  | f + 1, i =>
    if isOp (c i) = true then
      ((labE V f (labE V f (i + 1)).1).1, jn R n (labE V f (i + 1)).2.1 (labE V f (labE V f (i + 1)).1).2.1,
        (if c i = 47 then jn R n (jn R n (labE V f (i + 1)).2.2.1 (labE V f (labE V f (i + 1)).1).2.2.1) (labE V f (labE V f (i + 1)).1).2.1 else jn R n (labE V f (i + 1)).2.2.1 (labE V f (labE V f (i + 1)).1).2.2.1),
        ((labE V f (i + 1)).2.2.2 || (labE V f (labE V f (i + 1)).1).2.2.2) || (c i == 47))
    else if isDB (c i) 10 = true then (i + 1, bot R n, bot R n, false)
    else (i + 1, V (c i - 97).toNat, bot R n, false)
/-- An expression in a context: where it ends, the context with its label, D. -/
def condW (V : Nat → Nat) (f i p : Nat) : Nat × Nat × Nat :=
  ((labE c R n V f i).1, jn R n p (labE c R n V f i).2.1, if (labE c R n V f i).2.2.2 = true then jn R n p (labE c R n V f i).2.2.1 else bot R n)
def demW (mute : Bool) (st : WS) (a b i : Nat) : WS := if mute = false ∧ R a b = false ∧ (st.bad < 0 ∨ (i : Int) < st.bad) then { st with bad := (i : Int) } else st
def atLW (mute : Bool) (st : WS) (v a i : Nat) : WS :=
  if mute = true then st
  else if low = true ∧ fx v < 0 then (if jn R n (st.V v) a = st.V v then st else { st with V := setF st.V v (jn R n (st.V v) a), ra := true })
  else demW R mute st a (st.V v) i
def callW (mute : Bool) (st : WS) (k p i : Nat) : WS :=
  if low = true ∧ mute = false then (if jn R n (st.X k) p = st.X k then st else { st with X := setF st.X k (jn R n (st.X k) p), ra := true })
  else demW R mute st p (st.X k) i
/-- A statement in the context p: where it ends, its throw, the labelling behind it. -/
def wkS : Nat → Bool → Nat → Nat → WS → Nat × Nat × WS
  | 0, _, i, _, st => (i, bot R n, st)
  | f + 1, mute, i, p, st =>
    if c i = 44 ∨ c i = 116 then
      (let r1 := wkS f mute (i + 1) p st
       let r2 := wkS f mute r1.1 (jn R n p r1.2.1) r1.2.2
       (r2.1, (if c i = 44 then jn R n r1.2.1 r2.2.1 else r2.2.1), r2.2.2))
    else if c i = 61 then
      (let e := condW c R n st.V f (i + 2) p
       (e.1, e.2.2, atLW R n fx low mute st (c (i + 1) - 97).toNat e.2.1 i))
    else if c i = 105 then
      (let e := condW c R n st.V f (i + 1) p
       let r1 := wkS f mute e.1 e.2.1 st
       let r2 := wkS f mute r1.1 e.2.1 r1.2.2
       (r2.1, jn R n e.2.2 (jn R n r1.2.1 r2.2.1), r2.2.2))
    else if c i = 119 then
      (let e := condW c R n st.V f (i + 1) p
       let r := jn R n e.2.1 e.2.2
       let r1 := wkS f true e.1 r st
       (r1.1, jn R n e.2.2 r1.2.1, if mute = true then r1.2.2 else (wkS f false e.1 (jn R n r r1.2.1) r1.2.2).2.2))
    else if c i = 114 then
      (let d := (c (i + 1) - 48).toNat
       let q := jn R n p d
       (i + 3, q, atLW R n fx low mute (demW R mute st p d i) (c (i + 2) - 97).toNat q i))
    else if c i = 111 then
      (let d := (c (i + 1) - 48).toNat
       let e := condW c R n st.V f (i + 2) p
       (e.1, e.2.2, demW R mute st e.2.1 d i))
    else if c i = 120 then (i + 1, p, st)
    else if c i = 99 then (i + 2, jn R n p (st.T (c (i + 1) - 48).toNat), callW R n low mute st (c (i + 1) - 48).toNat p i)
    else (i + 1, bot R n, st)
end

/-- A statement that is whole: its calls' procedures are there. -/
def wfS (c : Nat → Int) (nv N np : Nat) : Nat → Nat → Nat × Bool
  | 0, i => (i, true)
  | f + 1, i =>
    if c i = 46 ∨ c i = 120 then (i + 1, false)
    else if c i = 44 ∨ c i = 116 then (if (wfS c nv N np f (i + 1)).2 = true then (i, true) else wfS c nv N np f (wfS c nv N np f (i + 1)).1)
    else if c i = 61 then (if isVar nv (c (i + 1)) = true then scE c nv f (i + 2) else (i, true))
    else if c i = 105 then (if (scE c nv f (i + 1)).2 = true then (i, true) else if (wfS c nv N np f (scE c nv f (i + 1)).1).2 = true then (i, true) else wfS c nv N np f (wfS c nv N np f (scE c nv f (i + 1)).1).1)
    else if c i = 119 then (if (scE c nv f (i + 1)).2 = true then (i, true) else wfS c nv N np f (scE c nv f (i + 1)).1)
    else if c i = 114 then (if isDB (c (i + 1)) N = true ∧ isVar nv (c (i + 2)) = true then (i + 3, false) else (i, true))
    else if c i = 111 then (if isDB (c (i + 1)) N = true then scE c nv f (i + 2) else (i, true))
    else if c i = 99 then (if isDB (c (i + 1)) np = true then (i + 2, false) else (i, true))
    else (i, true)

/-- The labels are levels. -/
structure InR (n nv np : Nat) (st : WS) : Prop where
  V : ∀ k, k < nv → st.V k < n
  X : ∀ k, k < np → st.X k < n
  T : ∀ k, k < np → st.T k < n

end Go.Proofs.Ytfcflnnleadpkaa

namespace Go.Proofs.Ytfcflnnleadpkaa
open Go.RowKit

theorem PI_init {w W2 w1 : World} {o : Value} {s : ByteArray} {I N nv : Nat} {bad : Bool} {l : Value} (hW : W2.heap.size = w.heap.size + 2) (hWb : Below w.heap.size w W2)
    (hsc : Scn w1 w.heap.size s I bad N 0 (.slice none 0 0)) (hpr : w1.heap[w.heap.size + 1]? = some (.cells (pgC o s 0 (.slice none 0 0) (.slice none 0 0)) 58 (0, 0)))
    (hown : w1.ownsRow (w.heap.size + 2) 3 1 l nv (fixL (bt s) N nv)) (hkp : Kp w.heap.size none W2 w1) :
    PI w (((w1.setCell ⟨w.heap.size + 1, 4, none⟩ l).setCell ⟨w.heap.size, 4, none⟩ (.int .i64 (nv : Int))).setCell ⟨w.heap.size + 1, 2, none⟩ (.int .i64 (I : Int))) w.heap.size (w.heap.size + 1)
      o s I bad N nv [] (.slice none 0 0) I [] (.slice none 0 0) l := by
  have h0 := hkp.size
  have a1 : w1.setCell ⟨w.heap.size + 1, 4, none⟩ l = w1.setRow (w.heap.size + 1) (pgC o s 0 (.slice none 0 0) l) := by rw [setCell_eq_setRow w1 _ _ _ _ _ _ hpr]; rfl
  have h1 : (w1.setRow (w.heap.size + 1) (pgC o s 0 (.slice none 0 0) l)).heap[w.heap.size]? = some (.cells (scC s I bad N 0 (.slice none 0 0)) 103 (0, 0)) := (setRow_other w1 _ _ _ (by omega)).trans hsc
  have h2 := setRow_heap w1 (w.heap.size + 1) _ (pgC o s 0 (.slice none 0 0) l) _ _ hpr
  rw [a1, setCell_eq_setRow _ w.heap.size 4 _ _ _ _ h1]
  have h3 : ((w1.setRow (w.heap.size + 1) (pgC o s 0 (.slice none 0 0) l)).setRow w.heap.size ((scC s I bad N 0 (.slice none 0 0)).setIfInBounds 4 (.int .i64 (nv : Int)))).heap[w.heap.size + 1]? = some (.cells (pgC o s 0 (.slice none 0 0) l) 58 (0, 0)) :=
    (setRow_other _ _ _ _ (by omega)).trans h2
  have h4 := setRow_heap (w1.setRow (w.heap.size + 1) (pgC o s 0 (.slice none 0 0) l)) w.heap.size _ ((scC s I bad N 0 (.slice none 0 0)).setIfInBounds 4 (.int .i64 (nv : Int))) _ _ h1
  rw [setCell_eq_setRow _ (w.heap.size + 1) 2 _ _ _ _ h3]
  have hoth : ∀ k, k ≠ w.heap.size → k ≠ w.heap.size + 1 → (((w1.setRow (w.heap.size + 1) (pgC o s 0 (.slice none 0 0) l)).setRow w.heap.size ((scC s I bad N 0 (.slice none 0 0)).setIfInBounds 4 (.int .i64 (nv : Int)))).setRow (w.heap.size + 1) ((pgC o s 0 (.slice none 0 0) l).setIfInBounds 2 (.int .i64 (I : Int)))).heap[k]? = w1.heap[k]? := fun k hk1 hk2 =>
    (setRow_other _ _ _ _ hk2).trans ((setRow_other _ _ _ _ hk1).trans (setRow_other _ _ _ _ hk2))
  refine ⟨⟨?_, World.ownsRow_nil _ _ _ _⟩, ?_, World.ownsRow_nil _ _ _ _, ?_, Or.inl rfl, Or.inl rfl, Or.inl rfl, ?_, rfl, rfl⟩
  · exact (setRow_other _ _ _ _ (by omega)).trans h4
  · exact setRow_heap _ (w.heap.size + 1) _ _ _ _ h3
  · exact ownsRow_keep hown (fun g hg => hoth g (by have := (hown.lt g hg).1; omega) (by have := (hown.lt g hg).1; omega))
  · refine hWb.trans ⟨hkp.os, hkp.tape, hkp.output, by simp; exact hkp.size, fun k hk => (hoth k (by omega) (by omega)).trans (hkp.block k (by omega) (by omega) (by simp))⟩

section
variable {w0 w : World} {cb pb : Nat} {o : Value} {s : ByteArray} {i : Nat} {bad : Bool} {N nv : Nat} {C : List Nat} {v : Value} {main : Nat} {P : List Nat} {pv fl : Value}
theorem PI.setBad (h : PI w0 w cb pb o s i bad N nv C v main P pv fl) (x : Bool) : PI w0 (w.setCell ⟨cb, 2, none⟩ (.bool x)) cb pb o s i x N nv C v main P pv fl := by
  rw [h.sc.sc.set2]
  exact h.scan (r := (i, x)) (w' := w.setRow cb (scC s i x N nv v)) ⟨0, rfl⟩
theorem PI.setI (h : PI w0 w cb pb o s i bad N nv C v main P pv fl) (x : Int) (j : Nat) (hx : x = (j : Int)) : PI w0 (w.setCell ⟨cb, 1, none⟩ (.int .i64 x)) cb pb o s j bad N nv C v main P pv fl := by
  rw [h.sc.sc.set1 x j hx]
  exact h.scan (r := (j, bad)) (w' := w.setRow cb (scC s j bad N nv v)) ⟨0, rfl⟩
end

/-- What the document's Parse answers, and what it leaves. -/
def ParseAns (w0 : World) (o : Value) (s : ByteArray) (N : Nat) (e : Ending) (w' : World) : Prop :=
  (prE s N ≠ 0 ∧ e = .returned (.tuple #[.pointer none, .int .i64 (prE s N), .int .i64 (prP s N)])) ∨
  (prE s N = 0 ∧ s.size ≤ 300 ∧ e = .returned (.tuple #[.pointer (some ⟨w0.heap.size + 1, 0, none⟩), .int .i64 0, .int .i64 0]) ∧
    ∃ v pv fl, PI w0 w' w0.heap.size (w0.heap.size + 1) o s (prA s N).1 false N (prNv s N) (prA s N).2.2.1 v (prNv s N + 1) (prPs s N) pv fl)

theorem scPr_end {c : Nat → Int} {nv N sz f g i : Nat} {C P : List Nat} (h : ¬ i < sz) : scPr c nv N sz f (g + 1) i C P = (i, false, C, P) := by
  simp only [scPr]; rw [if_neg h]
theorem scPr_bad {c : Nat → Int} {nv N sz f g i : Nat} {C P : List Nat} (h : i < sz) (h2 : ¬ (c i = 59 ∧ P.length < 4)) : scPr c nv N sz f (g + 1) i C P = (i, true, C, P) := by
  simp only [scPr]; rw [if_pos h, if_neg h2]
theorem scPr_go {c : Nat → Int} {nv N sz f g i : Nat} {C P : List Nat} (h : i < sz) (h2 : c i = 59 ∧ P.length < 4) (h3 : (scS c nv N f (i + 1) C).2.1 = false) :
    scPr c nv N sz f (g + 1) i C P = scPr c nv N sz f g (scS c nv N f (i + 1) C).1 (scS c nv N f (i + 1) C).2.2 (P ++ [i + 1]) := by
  simp only [scPr]; rw [if_pos h, if_pos h2, h3]; simp
theorem scPr_stuck {c : Nat → Int} {nv N sz f g i : Nat} {C P : List Nat} (h : i < sz) (h2 : c i = 59 ∧ P.length < 4) (h3 : (scS c nv N f (i + 1) C).2.1 = true) :
    scPr c nv N sz f (g + 1) i C P = ((scS c nv N f (i + 1) C).1, true, (scS c nv N f (i + 1) C).2.2, P ++ [i + 1]) := by
  simp only [scPr]; rw [if_pos h, if_pos h2, h3]; simp

/-- The state ahead of a round: what is still to be read comes to the whole. -/
structure LoopI (w0 wr : World) (o : Value) (s : ByteArray) (N nv g i : Nat) (bad : Bool) (C : List Nat) (main : Nat) (P : List Nat) (A : Nat × Bool × List Nat × List Nat) : Prop where
  pi : ∃ v pv fl, PI w0 wr w0.heap.size (w0.heap.size + 1) o s i bad N nv C v main P pv fl
  all : if bad = true then A = (i, true, C, P) else (∃ g', g = g' + 1 ∧ A = scPr (bt s) nv N s.size (s.size + 1) g' i C P ∧ P.length + g' = 5 ∧ P.length ≤ 4)
  le : i ≤ s.size
  cl : C.length ≤ i
  inT : bad = false → ∀ k, k ∈ C → k < s.size

/-- The calls' places lie in the text, where the reader is not stuck. -/
def InT (s : ByteArray) (r : Nat × Bool × List Nat) : Prop := r.2.1 = false → ∀ k, k ∈ r.2.2 → k < s.size
theorem thenS_in {s : ByteArray} {r : Nat × Bool × List Nat} {g : Nat → List Nat → Nat × Bool × List Nat} (h : InT s r) (k : (∀ x, x ∈ r.2.2 → x < s.size) → InT s (g r.1 r.2.2)) : InT s (thenS r g) := by
  unfold thenS
  cases e : r.2.1 with
  | true => rw [if_pos rfl]; exact h
  | false => rw [if_neg (by simp)]; exact k (h e)
theorem thenE_in {s : ByteArray} {e : Nat × Bool} {C : List Nat} {g : Nat → Nat × Bool × List Nat} (k : InT s (g e.1)) : InT s (thenE e C g) := by
  unfold thenE
  cases h : e.2 with
  | true => rw [if_pos rfl]; intro h2; simp at h2
  | false => rw [if_neg (by simp)]; exact k
theorem thenX_in {s : ByteArray} {r : Nat × Bool} {C : List Nat} {g : Nat → Nat × Bool} (hC : ∀ k, k ∈ C → k < s.size) : InT s (thenX r C g) := by
  unfold thenX
  split
  · intro h; simp at h
  · intro _; exact hC
theorem scS_in (s : ByteArray) (nv N f : Nat) : ∀ (i : Nat) (C : List Nat), (∀ k, k ∈ C → k < s.size) → InT s (scS (bt s) nv N f i C) := by
  induction f with
  | zero => intro i C hC h; simp [scS] at h
  | succ f ih =>
    intro i C hC
    by_cases c1 : bt s i = 46 ∨ bt s i = 120
    · rw [scS_plain c1]; intro _; exact hC
    by_cases c2 : bt s i = 44 ∨ bt s i = 116
    · rw [scS_seq c2]; exact thenS_in (ih _ _ hC) (fun h => ih _ _ h)
    by_cases c3 : bt s i = 61
    · rw [scS_eq c3]; exact thenX_in hC
    by_cases c4 : bt s i = 105
    · rw [scS_i c4]; exact thenE_in (thenS_in (ih _ _ hC) (fun h => ih _ _ h))
    by_cases c5 : bt s i = 119
    · rw [scS_w c5]; exact thenE_in (ih _ _ hC)
    by_cases c6 : bt s i = 114
    · rw [scS_r c6]; exact thenX_in hC
    by_cases c7 : bt s i = 111
    · rw [scS_o c7]; exact thenX_in hC
    by_cases c8 : bt s i = 99
    · rw [scS_c c8]
      intro h k hk
      unfold dgS at h
      cases e : isDB (bt s (i + 1)) 4 with
      | false => rw [e] at h; simp at h
      | true =>
        rcases List.mem_append.1 hk with h1 | h1
        · exact hC k h1
        · simp at h1; subst h1; exact isDB_lt e
    rw [scS_no (by omega) (by omega) (by omega) (by omega) c3 c4 c5 c6 c7 c8]
    intro h; simp at h
theorem badCall_drop (c : Nat → Int) (n : Nat) (C : List Nat) (j : Nat) (hj : j < C.length) : badCall c n (C.drop j) = if (n : Int) ≤ dgt (c (C.getD j 0)) 4 then some (C.getD j 0) else badCall c n (C.drop (j + 1)) := by
  rw [List.drop_eq_getElem_cons hj]
  have e : C[j] = C.getD j 0 := by simp [hj]
  simp only [badCall, e]

end Go.Proofs.Ytfcflnnleadpkaa

namespace Go.Proofs.Ytfcflnnleadpkaa
open Go.RowKit

theorem LoopI_start {w0 wr : World} {o : Value} {s : ByteArray} {N nv i : Nat} {bad : Bool} {C : List Nat} {v : Value} {main : Nat} {pv fl : Value} {A : Nat × Bool × List Nat × List Nat}
    (h : PI w0 wr w0.heap.size (w0.heap.size + 1) o s i bad N nv C v main [] pv fl) (hA : A = if bad = true then (i, true, C, []) else scPr (bt s) nv N s.size (s.size + 1) 5 i C []) (hi : i ≤ s.size) (hC : C.length ≤ i)
    (hin : bad = false → ∀ k, k ∈ C → k < s.size) : LoopI w0 wr o s N nv 6 i bad C main [] A := by
  refine ⟨⟨v, pv, fl, h⟩, ?_, hi, hC, hin⟩
  cases bad
  · rw [if_neg (by simp)]; exact ⟨5, rfl, by simpa using hA, rfl, by simp⟩
  · rw [if_pos rfl]; simpa using hA

theorem own_cells {w : World} {B : Nat} {C : List Nat} {v : Value} (h : w.ownsRow B 3 1 v C.length (cells C)) : ∃ a cap, v = .slice a C.length cap ∧ ∀ j, j < C.length → ∃ g, a = some ⟨g, 0, none⟩ ∧ w.cell? ⟨g, j, none⟩ = some (.int .i64 ((C.getD j 0 : Nat) : Int)) := by
  obtain ⟨a, cap, rfl⟩ := ownsRow_slice h
  refine ⟨a, cap, rfl, fun j hj => ?_⟩
  rcases h.2 with ⟨e1, e2⟩ | ⟨g, cap', cur, e1, _, hg, _, _, _, ht⟩
  · omega
  · simp at e1
    refine ⟨g, e1.1, ?_⟩
    rw [cell_of_row w g j cur _ _ hg]
    have h2 : (cells C)[j]? = some (.int .i64 ((C.getD j 0 : Nat) : Int)) := by simp [cells, hj]
    rw [← ht, List.getElem?_take, if_pos (by omega)] at h2
    simpa using h2
theorem loop_next {c : Nat → Int} {nv N sz f g i : Nat} {C P : List Nat} {A : Nat × Bool × List Nat × List Nat} (hA : A = scPr c nv N sz f (g + 1) i C P) (h1 : i < sz) (h2 : c i = 59) (h3 : P.length < 4) (h4 : P.length + (g + 1) = 5) :
    if (scS c nv N f (i + 1) C).2.1 = true then A = ((scS c nv N f (i + 1) C).1, true, (scS c nv N f (i + 1) C).2.2, P ++ [i + 1])
    else (∃ g', g + 1 = g' + 1 ∧ A = scPr c nv N sz f g' (scS c nv N f (i + 1) C).1 (scS c nv N f (i + 1) C).2.2 (P ++ [i + 1]) ∧ (P ++ [i + 1]).length + g' = 5 ∧ (P ++ [i + 1]).length ≤ 4) := by
  cases e : (scS c nv N f (i + 1) C).2.1
  · rw [if_neg (by simp)]
    exact ⟨g, rfl, by rw [hA]; exact scPr_go h1 ⟨h2, h3⟩ e, by simp; omega, by simp; omega⟩
  · rw [if_pos rfl, hA]
    exact scPr_stuck h1 ⟨h2, h3⟩ e

set_option maxHeartbeats 4000000 in
set_option maxRecDepth 100000 in
theorem Parse_in (w : World) (ob : Nat) (s : ByteArray) (N : Nat) (hs : s.size ≤ 300) (hc : w.cell? ⟨ob, 0, none⟩ = some (.int .i64 (N : Int))) :
    Calls Try.prog 24 #[.pointer (some ⟨ob, 0, none⟩), .string s] w fun e w' => ParseAns w (.pointer (some ⟨ob, 0, none⟩)) s N e w' ∧ Below w.heap.size w w' := by
  have hgt : decide ((300 : Int) < (s.size : Int)) = false := by simp; omega
  go_enter Try.func24, Try.ntmps24
  go_wp2_with fail
  clear hc
  refine (vars_any (v := .slice none 0 0) (s := s) (N := N) (nv := 0) ?_).mono ?_
  · exact (Below.heap_alloc _ _ _ (by simp)).trans (heap_alloc_last w _)
  rintro e w1 ⟨l, rfl, hsc, hown, hkp⟩
  have hpr : w1.heap[w.heap.size + 1]? = some (.cells (pgC (.pointer (some ⟨ob, 0, none⟩)) s 0 (.slice none 0 0) (.slice none 0 0)) 58 (0, 0)) := by
    refine (hkp.block (w.heap.size + 1) (by simp) (by omega) (by simp)).trans ?_
    have := heap_alloc_last (w.alloc (.cells (scC s 0 false N 0 (.slice none 0 0)) 103)) (.cells (pgC (.pointer (some ⟨ob, 0, none⟩)) s 0 (.slice none 0 0) (.slice none 0 0)) 58)
    rw [show (w.alloc (.cells (scC s 0 false N 0 (.slice none 0 0)) 103)).heap.size = w.heap.size + 1 by simp] at this
    exact this
  have p4 : w1.cell? ⟨w.heap.size + 1, 4, none⟩ = some (.slice none 0 0) := by rw [cell_of_row w1 _ 4 _ _ _ hpr]; rfl
  have p2 : w1.cell? ⟨w.heap.size + 1, 2, none⟩ = some (.int .i64 0) := by rw [cell_of_row w1 _ 2 _ _ _ hpr]; rfl
  have z4 := frozen_of_row w1 _ 4 _ _ hpr
  have z2 := frozen_of_row w1 _ 2 _ _ hpr
  have c4 := hsc.c4
  have c1 := hsc.c1
  have c2 := hsc.c2
  have y4 := hsc.fz 4
  obtain ⟨la, lc, rfl⟩ := ownsRow_slice hown
  have HPI := hide (PI_init (w := w) (by simp) (((Below.refl _ _).alloc (Nat.le_refl _) _).alloc (by simp) _) hsc hpr (by have h := hown; simp at h; exact h) hkp)
  have HSZ := hide hkp.size
  clear hsc hown hkp hpr
  have HNV := hide (show nvOf (bt s) N = prNv s N from rfl)
  cases hr : (vrEnd (bt s) N).2
  · rw [hr] at c2 HPI
    have HV := hide (show bt s (nvOf (bt s) N) = 58 ∧ (vrEnd (bt s) N).1 = nvOf (bt s) N + 1 by
      unfold vrEnd at hr ⊢
      by_cases e : bt s (nvOf (bt s) N) = 58
      · rw [if_pos e]; exact ⟨e, rfl⟩
      · rw [if_neg e] at hr; simp at hr)
    rw [(unhide HV).2] at HPI c1
    have HLT := hide (show nvOf (bt s) N + 1 ≤ s.size from bt_lt (by rw [(unhide HV).1]; omega))
    go_wp2_with fail
    refine (stmt_ok _ _ s N (nvOf (bt s) N) hs (s.size + 1) _ _ [] _ (unhide HPI).sc (by omega) (unhide HLT) (by have := (unhide HPI).bel.size; have := unhide HSZ; simp at *; omega) (by simp)).mono ?_
    rintro e w2 ⟨rfl, hs2⟩
    obtain ⟨v2, hpi2⟩ := (unhide HPI).stmt hs2
    have HLI := hide (LoopI_start (A := prA s N) hpi2 (by
        unfold prA parseAll
        rw [if_pos (unhide HV).1]) (scS_good s _ N (s.size + 1) _ [] (unhide HLT) (by simp)).2.1 (scS_good s _ N (s.size + 1) _ [] (unhide HLT) (by simp)).2.2 (scS_in s _ N (s.size + 1) _ [] (by simp)))
    have HMA := hide (show (scS (bt s) (nvOf (bt s) N) N (s.size + 1) (nvOf (bt s) N + 1) []).2.1 = false → nvOf (bt s) N + 1 = prNv s N + 1 from fun _ => rfl)
    clear hpi2 hs2 p4 p2 z4 z2 c4 c1 c2 y4 HPI HV HLT hr
    generalize scS (bt s) (nvOf (bt s) N) N (s.size + 1) (nvOf (bt s) N + 1) [] = R at *
    obtain ⟨i0, bad0, C0⟩ := R
    generalize nvOf (bt s) N + 1 = mn at *
    go_wp2_with fail
    go_loopg [] 6 (fun g wr => ∃ (i : Nat) (bad : Bool) (C P : List Nat) (m : Nat), (bad = false → m = prNv s N + 1) ∧ LoopI w wr (.pointer (some ⟨ob, 0, none⟩)) s N (nvOf (bt s) N) g i bad C m P (prA s N))
    case atStart => exact ⟨i0, bad0, C0, [], mn, unhide HMA, unhide HLI⟩
    case round =>
      obtain ⟨i, bad, C, P, m, hm, hli⟩ := hrel
      obtain ⟨v, pv, fl, hpi⟩ := hli.pi
      have HM := hide hm
      have HLI1 := hide hli
      have HP := hide hpi
      have k1 := hpi.sc.sc.c1
      have k2 := hpi.sc.sc.c2
      have k3 := hpi.c3
      have HLE := hide hli.le
      clear hm hli hpi
      cases bad
      · obtain ⟨g', hg', hA, hPg, hP4⟩ := (unhide HLI1).all
        obtain ⟨g2, rfl⟩ : ∃ g2, g' = g2 + 1 := ⟨g' - 1, by omega⟩
        have HA := hide hA
        clear hA
        have y2 := (unhide HP).sc.sc.fz 2
        have y1 := (unhide HP).sc.sc.fz 1
        obtain ⟨pa, pc, rfl⟩ := ownsRow_slice (unhide HP).pown
        by_cases hlt : i < s.size
        · have hlt' : (i : Int) < (s.size : Int) := by omega
          have hbq := bt_eq s i hlt
          by_cases h59 : bt s i = 59
          · have h59' : (bt s i != 59) = false := by simp [h59]
            by_cases h4 : P.length < 4
            · have h4' : decide ((4 : Int) ≤ (P.length : Int)) = false := by simp; omega
              go_wp2_with fail
              have HP1 := hide ((unhide HP).setI ((i : Int) + 1) (i + 1) (by omega))
              generalize wr.setCell ⟨w.heap.size, 1, none⟩ (.int .i64 ((i : Int) + 1)) = wI at *
              have q1 := (unhide HP1).sc.sc.c1
              have q3 := (unhide HP1).c3
              have qz := (unhide HP1).fz 3
              have hpbl : w.heap.size + 1 < wI.heap.size := World.block_lt_of_cell? wI _ q3
              have hne : some (w.heap.size + 1) ≠ (Value.slice pa P.length pc).ownBlock := fun e => by have := ((unhide HP1).pown.lt _ e.symm).1; omega
              have hca := fun o => (World.cell?_of_block (w := wI) (a := ⟨w.heap.size + 1, 3, none⟩) (Below.heap_alloc wI o _ hpbl)).trans q3
              have hca1 := fun o => (World.cell?_of_block (w := wI) (a := ⟨w.heap.size, 1, none⟩) (Below.heap_alloc wI o _ (show w.heap.size < wI.heap.size by omega))).trans q1
              have hfa := fun o => (World.frozen?_of_block (w := wI) (a := ⟨w.heap.size + 1, 3, none⟩) (Below.heap_alloc wI o _ hpbl)).trans qz
              obtain ⟨i9, hi9, hz0, hz1, hz2⟩ := info_parts info_int
              have HI := hide (And.intro hi9 (And.intro hz0 (And.intro hz1 hz2)))
              clear hi9 hz0 hz1 hz2 k1 k2 k3 y1 y2
              go_region_law ((refine step_append_lies _ (by rfl) _ _ _ (by rfl) (w.heap.size + 2) 3 i9 _ 1 8 Try.underlying46 (unhide HI).1 (unhide HI).2.1 (unhide HI).2.2.1 (unhide HI).2.2.2 rfl (by omega) (.slice pa P.length pc) P.length (cells P) (by rfl) (((unhide HP1).pown.alloc _).drew) ⟨wI.heap.size, 0, none⟩ 1 1 [.int .i64 ((i + 1 : Nat) : Int)] (by rfl) (by rfl) (World.news_of_block (cs := #[.int .i64 ((i + 1 : Nat) : Int)]) (t := 3) (fr := (0, 0)) (heap_alloc_new wI _)) (by simp [Value.oneCell']) (by omega) (by unfold maxLen; omega) (by omega) (by simp; omega) (wI.heap.size + 1) (by simp) ?_; intro gg cap w3 hown1 hgrow hat hlt9; have hc5 := (hgrow.cell_far ⟨w.heap.size + 1, 3, none⟩ (by simp; omega) hne).trans (hca _); have hf5 := (hgrow.frozen_far ⟨w.heap.size + 1, 3, none⟩ (by simp; omega) hne).trans (hfa _)))
              all_goals
                have HP2 := hide ((unhide HP1).push hown1 hgrow hat)
                generalize w3.setCell ⟨w.heap.size + 1, 3, none⟩ (.slice (some ⟨gg, 0, none⟩) (P.length + 1) cap) = w4 at *
                clear hown1 hgrow hat hlt9 hc5 hf5 hca hca1 hfa q1 q3 qz hne hpbl
                have hw4 := (unhide HP2).bel.size
                have hw5 : w.heap.size + 1 < w4.heap.size := World.block_lt_of_cell? w4 _ (unhide HP2).c0
                go_wp2_with fail
                refine (stmt_ok _ _ s N (nvOf (bt s) N) hs (s.size + 1) _ (i + 1) C _ (unhide HP2).sc (by omega) hlt (by omega) (by have := (unhide HLI1).cl; omega)).mono ?_
                rintro e w5 ⟨rfl, hs5⟩
                have HGD := hide (scS_good s (nvOf (bt s) N) N (s.size + 1) (i + 1) C hlt (by have := (unhide HLI1).cl; omega))
                have HIN := hide (scS_in s (nvOf (bt s) N) N (s.size + 1) (i + 1) C ((unhide HLI1).inT rfl))
                have HP5 := hide ((unhide HP2).stmt hs5)
                clear hs5
                have HR := hide (loop_next (unhide HA) hlt h59 h4 hPg)
                go_wp2_with fail
                go_roundg (g2 + 1)
                case measure => omega
                case rel => exact ⟨_, _, _, P ++ [i + 1], m, (fun _ => unhide HM trivial), ⟨by obtain ⟨v5, h5⟩ := unhide HP5; exact ⟨v5, _, fl, h5⟩, unhide HR, (unhide HGD).2.1, (unhide HGD).2.2, unhide HIN⟩⟩
            · have h4' : decide ((4 : Int) ≤ (P.length : Int)) = true := by simp; omega
              have HR := hide (show prA s N = (i, true, C, P) by rw [unhide HA]; exact scPr_bad hlt (fun h => h4 h.2))
              go_wp2_with fail
              go_roundg 0
              case measure => omega
              case rel => exact ⟨i, true, C, P, m, (fun h => by cases h), ⟨⟨v, _, fl, (unhide HP).setBad true⟩, unhide HR, unhide HLE, (unhide HLI1).cl, (fun h => by cases h)⟩⟩
          · have h59' : (bt s i != 59) = true := by simp [h59]
            have HR := hide (show prA s N = (i, true, C, P) by rw [unhide HA]; exact scPr_bad hlt (fun h => h59 h.1))
            go_wp2_with fail
            go_roundg 0
            case measure => omega
            case rel => exact ⟨i, true, C, P, m, (fun h => by cases h), ⟨⟨v, _, fl, (unhide HP).setBad true⟩, unhide HR, unhide HLE, (unhide HLI1).cl, (fun h => by cases h)⟩⟩
        · have HR := hide (show prA s N = (i, false, C, P) by rw [unhide HA]; exact scPr_end hlt)
          have hlt' : decide ((i : Int) < (s.size : Int)) = false := by simp; omega
          have HC := hide (show prC s N = badCall (bt s) P.length C by unfold prC; rw [unhide HR])
          have k5 := (unhide HP).sc.sc.c5
          obtain ⟨va, vc, rfl, hcl⟩ := own_cells (unhide HP).sc.own
          have HCL := hide hcl
          have HIN := hide ((unhide HLI1).inT rfl)
          have hC4 : C.length ≤ 300 := by have := (unhide HLI1).cl; have := unhide HLE; omega
          clear hcl
          go_wp2_with fail
          go_loop [9] (fun d => ∃ j : Nat, j ≤ C.length ∧ d = .int .i64 (j : Int) ∧ badCall (bt s) P.length C = badCall (bt s) P.length (C.drop j)) (fun d => C.length - (intOf d).toNat)
          case atStart => exact ⟨0, Nat.zero_le _, rfl, rfl⟩
          case round =>
            obtain ⟨j, hj, rfl, hq⟩ := hrel
            have HQ := hide hq
            clear hq
            by_cases hjl : j < C.length
            · obtain ⟨g, rfl, hcell⟩ := unhide HCL j hjl
              have hjl' : (j : Int) < (C.length : Int) := by omega
              have HB := hide (badCall_drop (bt s) P.length C j hjl)
              have hk0 : C.getD j 0 < s.size := unhide HIN _ (by simp [hjl])
              generalize C.getD j 0 = k0 at *
              have hk0' : (k0 : Int) < (s.size : Int) := by omega
              have hbk := bt_eq s k0 hk0
              have ⟨hb0, hb1⟩ := bt_bd s k0
              by_cases hge : (P.length : Int) ≤ dgt (bt s k0) 4
              · have hge' : decide ((P.length : Int) ≤ dgt (bt s k0) 4) = true := by simpa using hge
                have HE := hide (show prE s N = 5 ∧ prP s N = (k0 : Int) by
                  have hc : prC s N = some k0 := by rw [unhide HC, unhide HQ, unhide HB, if_pos hge]
                  exact ⟨by unfold prE; rw [if_neg (by omega), unhide HR, hc]; rfl, by unfold prP; rw [if_neg (by omega), unhide HR, hc]; rfl⟩)
                go_wp2_with fail
                refine (digit_any _ _ _ hb0 hb1).mono ?_
                rintro e w' ⟨rfl, rfl⟩
                generalize dgt (bt s k0) 4 = dg at *
                go_wp2_with fail
                go_quiet (fail)
                go_wp2_with fail
                go_ret3
                exact ⟨Or.inl ⟨by rw [(unhide HE).1]; omega, by rw [(unhide HE).1, (unhide HE).2]; rfl⟩, below_drewN2 (unhide HP).bel _⟩
              · have hge' : decide ((P.length : Int) ≤ dgt (bt s k0) 4) = false := by simpa using hge
                have HS := hide (show badCall (bt s) P.length C = badCall (bt s) P.length (C.drop (j + 1)) by rw [unhide HQ, unhide HB, if_neg hge])
                go_wp2_with fail
                refine (digit_any _ _ _ hb0 hb1).mono ?_
                rintro e w' ⟨rfl, rfl⟩
                generalize dgt (bt s k0) 4 = dg at *
                go_wp2_with fail
                go_round
                case rel => exact ⟨j + 1, by omega, by go_num, unhide HS⟩
                case measure => simp [intOf]; omega
            · have HE := hide (show prE s N = 0 by
                have hc : prC s N = none := by rw [unhide HC, unhide HQ, List.drop_of_length_le (by omega)]; rfl
                unfold prE; rw [if_neg (by omega), unhide HR, hc]; rfl)
              have hjl' : decide ((j : Int) < (C.length : Int)) = false := by simp; omega
              go_wp2_with fail
              go_ret3
              exact ⟨Or.inr ⟨unhide HE, hs, rfl, _, _, fl, by
                have h := unhide HP
                rw [unhide HM trivial] at h
                unfold prPs
                rw [unhide HR]
                exact h⟩, (unhide HP).bel⟩
      · have HA := hide (show prA s N = (i, true, C, P) from (unhide HLI1).all)
        have HE := hide (show prE s N = 4 ∧ prP s N = (i : Int) by
          exact ⟨by unfold prE; rw [if_neg (by omega), unhide HA]; rfl, by unfold prP; rw [if_neg (by omega), unhide HA]; rfl⟩)
        go_wp2_with fail
        go_quiet (fail)
        go_wp2_with fail
        go_ret3
        exact ⟨Or.inl ⟨by rw [(unhide HE).1]; omega, by rw [(unhide HE).1, (unhide HE).2]; rfl⟩, below_drewN2 (unhide HP).bel _⟩
  · rw [hr] at c2 HPI
    have HV := hide (show ¬ bt s (nvOf (bt s) N) = 58 ∧ (vrEnd (bt s) N).1 = nvOf (bt s) N by
      unfold vrEnd at hr ⊢
      by_cases e : bt s (nvOf (bt s) N) = 58
      · rw [if_pos e] at hr; simp at hr
      · rw [if_neg e]; exact ⟨e, rfl⟩)
    rw [(unhide HV).2] at HPI c1
    have HE := hide (show prE s N = 4 ∧ prP s N = (nvOf (bt s) N : Int) by
      have ha : prA s N = (nvOf (bt s) N, true, [], []) := by unfold prA parseAll; rw [if_neg (unhide HV).1]
      exact ⟨by unfold prE; rw [if_neg (by omega), ha]; rfl, by unfold prP; rw [if_neg (by omega), ha]; rfl⟩)
    clear hr
    go_wp2_with fail
    generalize ((w1.setCell ⟨w.heap.size + 1, 4, none⟩ (.slice la (nvOf (bt s) N) lc)).setCell ⟨w.heap.size, 4, none⟩ (.int .i64 (nvOf (bt s) N : Int))).setCell ⟨w.heap.size + 1, 2, none⟩ (.int .i64 (nvOf (bt s) N : Int)) = w2 at *
    have k1 := (unhide HPI).sc.sc.c1
    have k2 := (unhide HPI).sc.sc.c2
    clear p4 p2 z4 z2 c4 c1 c2 y4
    go_loopg [] 1 (fun g wr => wr = w2)
    case atStart => rfl
    case round =>
      obtain rfl := hrel
      go_wp2_with fail
      go_quiet (fail)
      go_wp2_with fail
      go_ret3
      exact ⟨Or.inl ⟨by rw [(unhide HE).1]; omega, by rw [(unhide HE).1, (unhide HE).2]; rfl⟩, below_drewN2 (unhide HPI).bel _⟩

set_option maxHeartbeats 1000000 in
set_option maxRecDepth 10000 in
theorem Parse_any (w : World) (ob : Nat) (s : ByteArray) (N : Nat) (hc : w.cell? ⟨ob, 0, none⟩ = some (.int .i64 (N : Int))) :
    Calls Try.prog 24 #[.pointer (some ⟨ob, 0, none⟩), .string s] w fun e w' => ParseAns w (.pointer (some ⟨ob, 0, none⟩)) s N e w' ∧ Below w.heap.size w w' := by
  by_cases h : s.size ≤ 300
  · exact Parse_in w ob s N h hc
  · have hgt : (300 : Int) < (s.size : Int) := by omega
    have HE := hide (show prE s N = 1 ∧ prP s N = 0 from ⟨by unfold prE; rw [if_pos (by omega)], by unfold prP; rw [if_pos (by omega)]⟩)
    clear hc
    go_enter Try.func24, Try.ntmps24
    go_wp2_with fail
    go_ret3
    exact ⟨Or.inl ⟨by rw [(unhide HE).1]; omega, by rw [(unhide HE).1, (unhide HE).2]; rfl⟩, Below.refl _ _⟩

end Go.Proofs.Ytfcflnnleadpkaa
