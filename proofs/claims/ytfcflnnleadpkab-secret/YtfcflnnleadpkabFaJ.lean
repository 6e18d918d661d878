import Derived.Test.YtfcflnnleadpkabLrJ
import Derived.Test.YtfcflnnleadpkabUeJ
import Derived.BigQuiet
import Derived.Deep.QuietTactic
namespace Go.Proofs.Ytfcflnnleadpkab
open Go.RowKit

/-- The cells of a program, by index. -/
def prgF (e p : Int) (s : ByteArray) (lv nv np : Int) (S : Nat → Int) (T : Nat → Nat → Int) (cv : Value) (k : Nat) : Value :=
  if k = 0 then .int .i64 e else if k = 1 then .int .i64 p else if k = 2 then .string s else if k = 3 then .int .i64 lv else if k = 4 then .int .i64 nv else if k = 5 then .int .i64 np
  else if k < 11 then .int .i64 (S (k - 6)) else if k < 911 then .int .i64 (T ((k - 11) / 3) ((k - 11) % 3)) else cv
def prgC (e p : Int) (s : ByteArray) (lv nv np : Int) (S : Nat → Int) (T : Nat → Nat → Int) (cv : Value) : Array Value := rowF (prgF e p s lv nv np S T cv) 912
theorem prgF_one {e p : Int} {s : ByteArray} {lv nv np : Int} {S : Nat → Int} {T : Nat → Nat → Int} {cv : Value} (h : cv.oneCell' = true) (k : Nat) : (prgF e p s lv nv np S T cv k).oneCell' = true := by
  unfold prgF
  repeat' split
  all_goals first | rfl | exact h
theorem prgC_size (e p : Int) (s : ByteArray) (lv nv np : Int) (S : Nat → Int) (T : Nat → Nat → Int) (cv : Value) : (prgC e p s lv nv np S T cv).size = 912 := rowF_size _ _

/-- What stays of a flow while its labels rise. -/
structure FD where
  b : Nat
  n : Nat
  nv : Nat
  np : Nat
  R : Nat → Nat → Bool
  s : ByteArray
  S : Nat → Int
  T : Nat → Nat → Int
  cv : Value
def eB (b : Int) : Int := if b < 0 then 0 else 6
def pB (b : Int) : Int := if b < 0 then 0 else b
/-- The cells of a flow, by index. -/
def flwF (e p : Int) (L P : Nat → Value) (V X T : Nat → Nat) (ra : Bool) (k : Nat) : Value :=
  if k = 0 then .int .i64 e else if k = 1 then .int .i64 p else if k < 134 then L (k - 2) else if k < 1046 then P (k - 134)
  else if k < 1054 then .int .i64 (V (k - 1046) : Int) else if k < 1058 then .int .i64 (X (k - 1054) : Int) else if k < 1062 then .int .i64 (T (k - 1058) : Int) else .bool ra
def flC (D : FD) (st : WS) : Array Value :=
  rowF (flwF (eB st.bad) (pB st.bad) (latF 0 0 D.n D.R (jTo D.n D.R D.n 0) (fbK D.R (D.n - 1) : Nat)) (prgF 0 0 D.s D.n D.nv D.np D.S D.T D.cv) st.V st.X st.T st.ra) 1063
theorem flC_size (D : FD) (st : WS) : (flC D st).size = 1063 := rowF_size _ _

/-- A flow in memory. -/
def Fl (D : FD) (w : World) (st : WS) : Prop := w.heap[D.b]? = some (.cells (flC D st) 68 (0, 0))
variable {D : FD} {w w' w'' : World} {st : WS}
theorem Fl.c0 (h : Fl D w st) : w.cell? ⟨D.b, 0, none⟩ = some (.int .i64 (eB st.bad)) := rowF_cell h (by omega)
theorem Fl.c1 (h : Fl D w st) : w.cell? ⟨D.b, 1, none⟩ = some (.int .i64 (pB st.bad)) := rowF_cell h (by omega)
theorem Fl.lat (h : Fl D w st) : LatM w D.b 2 D.n D.R :=
  ⟨(rowF_cell h (by omega)).trans rfl, fun i j hi hj => by
    rw [rowF_cell h (by omega)]
    unfold flwF
    rw [if_neg (by omega), if_neg (by omega), if_pos (by omega), show 2 + 3 + i * 8 + j - 2 = 3 + i * 8 + j by omega, latF_ij _ _ _ _ _ _ _ _ hi hj]⟩
theorem Fl.jo (h : Fl D w st) {i j : Nat} (hi : i < D.n) (hj : j < D.n) (hn : D.n ≤ 8) : w.cell? ⟨D.b, 2 + 67 + i * 8 + j, none⟩ = some (.int .i64 (Hm.joinI D.R D.n i j)) := by
  rw [rowF_cell h (by omega)]
  unfold flwF
  rw [if_neg (by omega), if_neg (by omega), if_pos (by omega), show 2 + 67 + i * 8 + j - 2 = 67 + i * 8 + j by omega, latF_jj _ _ _ _ _ _ _ _ (by omega) (by omega), jTo_all _ _ _ _ hi hj]
theorem fbK_bot {n : Nat} {R : Nat → Nat → Bool} (A : Go.Proofs.Ytfcflnnleadpkab.Lat n R) : ∀ k, k < n → bot R n ≤ k → fbK R k = bot R n := by
  intro k
  induction k with
  | zero => intro _ h; simp only [fbK]; omega
  | succ k ih =>
    intro hk hb
    simp only [fbK]
    by_cases e : bot R n = k + 1
    · have h1 : fbK R k < n := by have := fbK_le R k; omega
      rw [if_pos (by rw [← e]; exact A.bt _ h1), e]
    · rw [ih (by omega) (by omega)]
      by_cases h : R (k + 1) (bot R n) = true
      · have := A.L.anti (k + 1) (bot R n) hk (bot_lt A.n1) h (A.bt _ hk)
        omega
      · rw [if_neg h]
theorem fbK_eq {n : Nat} {R : Nat → Nat → Bool} (A : Go.Proofs.Ytfcflnnleadpkab.Lat n R) : fbK R (n - 1) = bot R n := fbK_bot A (n - 1) (by have := A.n1; omega) (by have := bot_lt (R := R) A.n1; omega)
theorem Fl.bo (h : Fl D w st) (A : Go.Proofs.Ytfcflnnleadpkab.Lat D.n D.R) : w.cell? ⟨D.b, 133, none⟩ = some (.int .i64 (bot D.R D.n : Nat)) := by
  rw [rowF_cell h (by omega), ← fbK_eq A]; rfl
theorem Fl.tx (h : Fl D w st) : w.cell? ⟨D.b, 136, none⟩ = some (.string D.s) := (rowF_cell h (by omega)).trans rfl
theorem Fl.cn (h : Fl D w st) : w.cell? ⟨D.b, 137, none⟩ = some (.int .i64 (D.n : Int)) := (rowF_cell h (by omega)).trans rfl
theorem Fl.cv (h : Fl D w st) : w.cell? ⟨D.b, 138, none⟩ = some (.int .i64 (D.nv : Int)) := (rowF_cell h (by omega)).trans rfl
theorem Fl.cp (h : Fl D w st) : w.cell? ⟨D.b, 139, none⟩ = some (.int .i64 (D.np : Int)) := (rowF_cell h (by omega)).trans rfl
theorem Fl.ps (h : Fl D w st) {k : Nat} (hk : k < 5) : w.cell? ⟨D.b, 140 + k, none⟩ = some (.int .i64 (D.S k)) := by
  rw [rowF_cell h (by omega)]
  unfold flwF prgF
  rw [if_neg (by omega), if_neg (by omega), if_neg (by omega), if_pos (by omega), if_neg (by omega), if_neg (by omega), if_neg (by omega), if_neg (by omega), if_neg (by omega), if_neg (by omega), if_pos (by omega), show 140 + k - 134 - 6 = k by omega]
theorem Fl.pt (h : Fl D w st) {i k : Nat} (hi : i < 300) (hk : k < 3) : w.cell? ⟨D.b, 145 + i * 3 + k, none⟩ = some (.int .i64 (D.T i k)) := by
  rw [rowF_cell h (by omega)]
  unfold flwF prgF
  rw [if_neg (by omega), if_neg (by omega), if_neg (by omega), if_pos (by omega), if_neg (by omega), if_neg (by omega), if_neg (by omega), if_neg (by omega), if_neg (by omega), if_neg (by omega), if_neg (by omega), if_pos (by omega), show (145 + i * 3 + k - 134 - 11) / 3 = i by omega, show (145 + i * 3 + k - 134 - 11) % 3 = k by omega]
theorem Fl.lv (h : Fl D w st) {k : Nat} (hk : k < 8) : w.cell? ⟨D.b, 1046 + k, none⟩ = some (.int .i64 (st.V k : Int)) := by
  rw [rowF_cell h (by omega)]
  unfold flwF
  rw [if_neg (by omega), if_neg (by omega), if_neg (by omega), if_neg (by omega), if_pos (by omega), show 1046 + k - 1046 = k by omega]
theorem Fl.lx (h : Fl D w st) {k : Nat} (hk : k < 4) : w.cell? ⟨D.b, 1054 + k, none⟩ = some (.int .i64 (st.X k : Int)) := by
  rw [rowF_cell h (by omega)]
  unfold flwF
  rw [if_neg (by omega), if_neg (by omega), if_neg (by omega), if_neg (by omega), if_neg (by omega), if_pos (by omega), show 1054 + k - 1054 = k by omega]
theorem Fl.lt (h : Fl D w st) {k : Nat} (hk : k < 4) : w.cell? ⟨D.b, 1058 + k, none⟩ = some (.int .i64 (st.T k : Int)) := by
  rw [rowF_cell h (by omega)]
  unfold flwF
  rw [if_neg (by omega), if_neg (by omega), if_neg (by omega), if_neg (by omega), if_neg (by omega), if_neg (by omega), if_pos (by omega), show 1058 + k - 1058 = k by omega]
theorem Fl.ra (h : Fl D w st) : w.cell? ⟨D.b, 1062, none⟩ = some (.bool st.ra) := (rowF_cell h (by omega)).trans rfl
theorem Fl.fz (h : Fl D w st) (j : Nat) : w.frozen? ⟨D.b, j, none⟩ = false := frozen_of_row w D.b j _ _ h

theorem flwF_lab {e p : Int} {L P : Nat → Value} {V X T V' X' T' : Nat → Nat} {ra ra' : Bool} {k a : Nat} (h : k ≠ a) (hV : ∀ j, 1046 + j ≠ a → V j = V' j) (hX : ∀ j, 1054 + j ≠ a → X j = X' j) (hT : ∀ j, 1058 + j ≠ a → T j = T' j)
    (hr : a ≠ 1062 → ra = ra') (h3 : k < 1063) : flwF e p L P V X T ra k = flwF e p L P V' X' T' ra' k := by
  unfold flwF
  by_cases h1 : k < 1046
  · repeat' split
    all_goals first | rfl | omega
  · have a0 : ¬ k = 0 := by omega
    have a1 : ¬ k = 1 := by omega
    have a2 : ¬ k < 134 := by omega
    simp only [a0, a1, a2, h1, if_false]
    by_cases h4 : k < 1054
    · rw [if_pos h4, if_pos h4, hV (k - 1046) (by omega)]
    · rw [if_neg h4, if_neg h4]
      by_cases h5 : k < 1058
      · rw [if_pos h5, if_pos h5, hX (k - 1054) (by omega)]
      · rw [if_neg h5, if_neg h5]
        by_cases h6 : k < 1062
        · rw [if_pos h6, if_pos h6, hT (k - 1058) (by omega)]
        · rw [if_neg h6, if_neg h6, hr (by omega)]
theorem Fl.setV (h : Fl D w st) {k x : Nat} (hk : k < 8) : Fl D (w.setCell ⟨D.b, 1046 + k, none⟩ (.int .i64 (x : Int))) { st with V := setF st.V k x } := by
  unfold Fl
  rw [setCell_eq_setRow w D.b _ _ _ _ _ h, show (flC D st).setIfInBounds (1046 + k) (.int .i64 (x : Int)) = flC D { st with V := setF st.V k x } from ?_]
  · exact setRow_heap w D.b _ _ _ _ h
  · refine rowF_set ?_ (fun j hj hne => flwF_lab (a := 1046 + k) hne (fun j h => ?_) (fun _ _ => rfl) (fun _ _ => rfl) (fun _ => rfl) hj)
    · unfold flwF
      rw [if_neg (by omega), if_neg (by omega), if_neg (by omega), if_neg (by omega), if_pos (by omega), show 1046 + k - 1046 = k by omega]
      show Value.int .i64 ((setF st.V k x k : Nat) : Int) = _
      unfold setF; rw [if_pos rfl]
    · show st.V j = setF st.V k x j
      unfold setF; rw [if_neg (by omega)]
theorem Fl.setX (h : Fl D w st) {k x : Nat} (hk : k < 4) : Fl D (w.setCell ⟨D.b, 1054 + k, none⟩ (.int .i64 (x : Int))) { st with X := setF st.X k x } := by
  unfold Fl
  rw [setCell_eq_setRow w D.b _ _ _ _ _ h, show (flC D st).setIfInBounds (1054 + k) (.int .i64 (x : Int)) = flC D { st with X := setF st.X k x } from ?_]
  · exact setRow_heap w D.b _ _ _ _ h
  · refine rowF_set ?_ (fun j hj hne => flwF_lab (a := 1054 + k) hne (fun _ _ => rfl) (fun j h => ?_) (fun _ _ => rfl) (fun _ => rfl) hj)
    · unfold flwF
      rw [if_neg (by omega), if_neg (by omega), if_neg (by omega), if_neg (by omega), if_neg (by omega), if_pos (by omega), show 1054 + k - 1054 = k by omega]
      show Value.int .i64 ((setF st.X k x k : Nat) : Int) = _
      unfold setF; rw [if_pos rfl]
    · show st.X j = setF st.X k x j
      unfold setF; rw [if_neg (by omega)]
theorem Fl.setT (h : Fl D w st) {k x : Nat} (hk : k < 4) : Fl D (w.setCell ⟨D.b, 1058 + k, none⟩ (.int .i64 (x : Int))) { st with T := setF st.T k x } := by
  unfold Fl
  rw [setCell_eq_setRow w D.b _ _ _ _ _ h, show (flC D st).setIfInBounds (1058 + k) (.int .i64 (x : Int)) = flC D { st with T := setF st.T k x } from ?_]
  · exact setRow_heap w D.b _ _ _ _ h
  · refine rowF_set ?_ (fun j hj hne => flwF_lab (a := 1058 + k) hne (fun _ _ => rfl) (fun _ _ => rfl) (fun j h => ?_) (fun _ => rfl) hj)
    · unfold flwF
      rw [if_neg (by omega), if_neg (by omega), if_neg (by omega), if_neg (by omega), if_neg (by omega), if_neg (by omega), if_pos (by omega), show 1058 + k - 1058 = k by omega]
      show Value.int .i64 ((setF st.T k x k : Nat) : Int) = _
      unfold setF; rw [if_pos rfl]
    · show st.T j = setF st.T k x j
      unfold setF; rw [if_neg (by omega)]
theorem Fl.setR (h : Fl D w st) (r : Bool) : Fl D (w.setCell ⟨D.b, 1062, none⟩ (.bool r)) { st with ra := r } := by
  unfold Fl
  rw [setCell_eq_setRow w D.b _ _ _ _ _ h, show (flC D st).setIfInBounds 1062 (.bool r) = flC D { st with ra := r } from ?_]
  · exact setRow_heap w D.b _ _ _ _ h
  · exact rowF_set rfl (fun j hj hne => flwF_lab (a := 1062) hne (fun _ _ => rfl) (fun _ _ => rfl) (fun _ _ => rfl) (fun h => absurd rfl h) hj)
theorem Fl.setB (h : Fl D w st) {e p b : Int} (he : eB b = e) (hp : pB b = p) : Fl D ((w.setCell ⟨D.b, 0, none⟩ (.int .i64 e)).setCell ⟨D.b, 1, none⟩ (.int .i64 p)) { st with bad := b } := by
  unfold Fl
  rw [setCell_eq_setRow w D.b _ _ _ _ _ h, setCell_eq_setRow _ D.b _ _ _ _ _ (setRow_heap w D.b _ _ _ _ h), setRow_setRow]
  rw [show ((flC D st).setIfInBounds 0 (.int .i64 e)).setIfInBounds 1 (.int .i64 p) = flC D { st with bad := b } from ?_]
  · exact setRow_heap w D.b _ _ _ _ h
  · have h1 : (flC D st).setIfInBounds 0 (.int .i64 e) = rowF (flwF e (pB st.bad) (latF 0 0 D.n D.R (jTo D.n D.R D.n 0) (fbK D.R (D.n - 1) : Nat)) (prgF 0 0 D.s D.n D.nv D.np D.S D.T D.cv) st.V st.X st.T st.ra) 1063 :=
      rowF_set rfl (fun k hk hne => by unfold flwF; rw [if_neg hne, if_neg hne])
    rw [h1]
    refine rowF_set (by show Value.int .i64 (pB b) = _; rw [hp]) (fun k hk hne => ?_)
    show flwF _ _ _ _ _ _ _ _ k = flwF (eB b) (pB b) _ _ _ _ _ _ k
    rw [he]
    unfold flwF
    rw [if_neg hne, if_neg hne]

/-- What else is in memory is kept. -/
structure Kf (b : Nat) (w w' : World) : Prop where
  os : w'.os = w.os
  tape : w'.tape = w.tape
  output : w'.output = w.output
  size : w.heap.size ≤ w'.heap.size
  block : ∀ k, k < w.heap.size → k ≠ b → w'.heap[k]? = w.heap[k]?
theorem Kf.refl (b : Nat) (w : World) : Kf b w w := ⟨rfl, rfl, rfl, Nat.le_refl _, fun _ _ _ => rfl⟩
theorem Kf.trans {b : Nat} (h : Kf b w w') (k : Kf b w' w'') : Kf b w w'' :=
  ⟨k.os.trans h.os, k.tape.trans h.tape, k.output.trans h.output, Nat.le_trans h.size k.size, fun j h1 h2 => (k.block j (Nat.lt_of_lt_of_le h1 h.size) h2).trans (h.block j h1 h2)⟩
theorem Kf.of_below {b : Nat} (h : Below w.heap.size w w') : Kf b w w' := ⟨h.os, h.tape, h.output, h.size, fun k hk _ => h.block k hk⟩
theorem Kf.drewN {b : Nat} (h : Kf b w w') (q : Nat) : Kf b w (w'.drewN q) := ⟨h.os, h.tape, h.output, h.size, h.block⟩
theorem Kf.setCell {b : Nat} (h : Kf b w w') (j : Nat) (v : Value) {C : Array Value} {t : TypeId} {fr : Nat × Nat} (hg : w'.heap[b]? = some (.cells C t fr)) : Kf b w (w'.setCell ⟨b, j, none⟩ v) := by
  rw [setCell_eq_setRow w' b _ _ _ _ _ hg]
  exact ⟨h.os, h.tape, h.output, by rw [size_setRow]; exact h.size, fun k h1 h2 => (setRow_other w' b k _ h2).trans (h.block k h1 h2)⟩
theorem Fl.below (h : Fl D w st) (hb : Below w.heap.size w w') : Fl D w' st := (hb.block D.b (Array.getElem?_eq_some_iff.1 h).1).trans h
theorem Fl.drewN (h : Fl D w st) (q : Nat) : Fl D (w.drewN q) st := h
theorem Fl.drew (h : Fl D w st) : Fl D w.drew st := h

end Go.Proofs.Ytfcflnnleadpkab

namespace Go.Proofs.Ytfcflnnleadpkab
open Go.RowKit

set_option maxHeartbeats 400000 in
theorem pDigit (w : World) (b o k : Nat) (s : ByteArray) (hs : w.cell? ⟨b, o + 2, none⟩ = some (.string s)) (hk : k < s.size) (hc : 48 ≤ bt s k) :
    Calls Try.prog 78 #[.pointer (some ⟨b, o, none⟩), .int .i64 (k : Int)] w fun e w' => e = .returned (.int .i64 (bt s k - 48)) ∧ w' = w := by
  have hbq := bt_eq s k hk
  have ⟨hb0, hb1⟩ := bt_bd s k
  have hk' : (k : Int) < (s.size : Int) := by omega
  generalize bt s k = c at *
  go_enter Try.func78, Try.ntmps78
  go_wp2_with fail
  go_ret
  exact ⟨rfl, rfl⟩

set_option maxHeartbeats 400000 in
theorem pVar (w : World) (b o k : Nat) (s : ByteArray) (hs : w.cell? ⟨b, o + 2, none⟩ = some (.string s)) (hk : k < s.size) (hc : 97 ≤ bt s k) :
    Calls Try.prog 84 #[.pointer (some ⟨b, o, none⟩), .int .i64 (k : Int)] w fun e w' => e = .returned (.int .i64 (bt s k - 97)) ∧ w' = w := by
  have hbq := bt_eq s k hk
  have ⟨hb0, hb1⟩ := bt_bd s k
  have hk' : (k : Int) < (s.size : Int) := by omega
  generalize bt s k = c at *
  go_enter Try.func84, Try.ntmps84
  go_wp2_with fail
  go_ret
  exact ⟨rfl, rfl⟩

set_option maxHeartbeats 400000 in
theorem pOpen (w : World) (b o k : Nat) (s : ByteArray) (hs : w.cell? ⟨b, o + 2, none⟩ = some (.string s)) (hk : k < s.size) :
    Calls Try.prog 79 #[.pointer (some ⟨b, o, none⟩), .int .i64 (k : Int)] w fun e w' => e = .returned (.bool (bt s k == 63)) ∧ w' = w := by
  have hbq := bt_eq s k hk
  have ⟨hb0, hb1⟩ := bt_bd s k
  have hk' : (k : Int) < (s.size : Int) := by omega
  generalize bt s k = c at *
  go_enter Try.func79, Try.ntmps79
  go_wp2_with fail
  go_ret
  exact ⟨rfl, rfl⟩

set_option maxHeartbeats 400000 in
theorem pIsVar (w : World) (b o nv : Nat) (c : Int) (hv : w.cell? ⟨b, o + 4, none⟩ = some (.int .i64 (nv : Int))) (h0 : 0 ≤ c) (h1 : c ≤ 255) :
    Calls Try.prog 101 #[.pointer (some ⟨b, o, none⟩), .int .u8 c] w fun e w' => e = .returned (.bool (isVar nv c)) ∧ w' = w := by
  by_cases a1 : 97 ≤ c
  · have HF := hide (show isVar nv c = decide (c - 97 < (nv : Int)) by simp [isVar, a1])
    go_enter Try.func101, Try.ntmps101
    go_wp2_with fail
    go_ret
    exact ⟨by rw [unhide HF]; rfl, rfl⟩
  · have HF := hide (show isVar nv c = false by simp [isVar, a1])
    have a1' : decide (97 ≤ c) = false := by simpa using a1
    go_enter Try.func101, Try.ntmps101
    go_wp2_with fail
    go_ret
    exact ⟨by rw [unhide HF]; rfl, rfl⟩

set_option maxHeartbeats 400000 in
theorem pOp (w : World) (c : Int) :
    Calls Try.prog 102 #[.int .u8 c] w fun e w' => e = .returned (.bool (isOp c)) ∧ w' = w := by
  have HF := hide (show isOp c = (c == 43 || c == 45 || c == 42 || c == 47 || c == 60) from rfl)
  cases h1 : (c == 43)
  · cases h2 : (c == 45)
    · cases h3 : (c == 42)
      · cases h4 : (c == 47)
        · go_enter Try.func102, Try.ntmps102
          go_wp2_with fail
          go_ret
          exact ⟨by rw [unhide HF, h1, h2, h3, h4]; rfl, rfl⟩
        · go_enter Try.func102, Try.ntmps102
          go_wp2_with fail
          go_ret
          exact ⟨by rw [unhide HF, h1, h2, h3, h4]; rfl, rfl⟩
      · go_enter Try.func102, Try.ntmps102
        go_wp2_with fail
        go_ret
        exact ⟨by rw [unhide HF, h1, h2, h3]; rfl, rfl⟩
    · go_enter Try.func102, Try.ntmps102
      go_wp2_with fail
      go_ret
      exact ⟨by rw [unhide HF, h1, h2]; rfl, rfl⟩
  · go_enter Try.func102, Try.ntmps102
    go_wp2_with fail
    go_ret
    exact ⟨by rw [unhide HF, h1]; rfl, rfl⟩

variable {D : FD} {w : World} {st : WS}
/-- Joins and what is below, of a flow's levels. -/
theorem fJoin (A : Lat D.n D.R) (hn : D.n ≤ 8) (h : Fl D w st) {a b : Nat} (ha : a < D.n) (hb : b < D.n) :
    Calls Try.prog 99 #[.pointer (some ⟨D.b, 2, none⟩), .int .i64 (a : Int), .int .i64 (b : Int)] w fun e w' => e = .returned (.int .i64 (jn D.R D.n a b : Nat)) ∧ w' = w := by
  rw [← (A.L.jn_lt ha hb).2.1]
  exact join_any w D.b 2 D.n a b D.R _ hn h.lat (h.jo ha hb hn) ha hb
theorem fBelow (hn : D.n ≤ 8) (h : Fl D w st) {a b : Nat} (ha : a < D.n) (hb : b < D.n) :
    Calls Try.prog 73 #[.pointer (some ⟨D.b, 2, none⟩), .int .i64 (a : Int), .int .i64 (b : Int)] w fun e w' => e = .returned (.bool (D.R a b)) ∧ w' = w :=
  isBelow_any w D.b 2 D.n a b D.R hn h.lat ha hb

/-- The table of parts is right for an expression. -/
def tbE (c : Nat → Int) (nv : Nat) (T : Nat → Nat → Int) : Nat → Nat → Prop
  | 0, _ => True
  | f + 1, i => isOp (c i) = true → T i 0 = ((i + 1 : Nat) : Int) ∧ T i 1 = ((scE c nv f (i + 1)).1 : Int) ∧ tbE c nv T f (i + 1) ∧ tbE c nv T f (scE c nv f (i + 1)).1
/-- And for a statement. -/
def tbS (c : Nat → Int) (nv N np : Nat) (T : Nat → Nat → Int) : Nat → Nat → Prop
  | 0, _ => True
  | f + 1, i =>
    (c i = 44 ∨ c i = 116 → T i 0 = ((i + 1 : Nat) : Int) ∧ T i 1 = ((wfS c nv N np f (i + 1)).1 : Int) ∧ tbS c nv N np T f (i + 1) ∧ tbS c nv N np T f (wfS c nv N np f (i + 1)).1) ∧
    (c i = 61 → T i 0 = ((i + 1 : Nat) : Int) ∧ T i 1 = ((i + 2 : Nat) : Int) ∧ tbE c nv T f (i + 2)) ∧
    (c i = 105 → T i 0 = ((i + 1 : Nat) : Int) ∧ T i 1 = ((scE c nv f (i + 1)).1 : Int) ∧ T i 2 = ((wfS c nv N np f (scE c nv f (i + 1)).1).1 : Int) ∧ tbE c nv T f (i + 1) ∧ tbS c nv N np T f (scE c nv f (i + 1)).1 ∧ tbS c nv N np T f (wfS c nv N np f (scE c nv f (i + 1)).1).1) ∧
    (c i = 119 → T i 0 = ((i + 1 : Nat) : Int) ∧ T i 1 = ((scE c nv f (i + 1)).1 : Int) ∧ tbE c nv T f (i + 1) ∧ tbS c nv N np T f (scE c nv f (i + 1)).1) ∧
    (c i = 114 → T i 0 = ((i + 1 : Nat) : Int) ∧ T i 1 = ((i + 2 : Nat) : Int)) ∧
    (c i = 111 → T i 0 = ((i + 1 : Nat) : Int) ∧ T i 1 = ((i + 2 : Nat) : Int) ∧ tbE c nv T f (i + 2)) ∧
    (c i = 99 → T i 0 = ((i + 1 : Nat) : Int))

/-- What a flow's data must be. -/
structure FOk (D : FD) : Prop where
  A : Lat D.n D.R
  n8 : D.n ≤ 8
  sz : D.s.size ≤ 300
  nv : D.nv ≤ 8
  np : D.np ≤ 4
  vs : D.nv ≤ D.s.size

theorem info_ex : (Try.prog.info? 134).map (fun i => (i.zero, i.size)) = some (some (.agg #[.int .i64 0, .bool false, .int .i64 0]), 3) := by kernel_rfl
theorem size_ex : (Try.prog.info? 134).map (·.size) = some 3 := (zero_of_info info_ex).2
theorem ret_ex {fn : Func} {k : Tmp} (h : fn.results = #[.cell k 134]) (tmps : Array Value) (w : World) (g : Nat) (a b c : Value)
    (hp : tmps.getD k undef = .pointer (some ⟨g, 0, none⟩)) (hg : w.heap[g]? = some (.cells #[a, b, c] 134 (0, 0))) :
    (results fn tmps).run Try.prog w = .ok (.agg #[a, b, c]) w :=
  results_cell_row h tmps w g _ _ _ _ hp hg Try.underlying134 rfl size_ex
theorem heap_two (w : World) (X Y : Obj) : ((w.alloc X).alloc Y).heap[w.heap.size]? = some X ∧ ((w.alloc X).alloc Y).heap[w.heap.size + 1]? = some Y := by
  refine ⟨(heap_alloc_old _ _ (by simp)).trans (heap_alloc_last w _), ?_⟩
  have := heap_alloc_last (w.alloc X) Y
  simpa using this
theorem below_two (w : World) (X Y : Obj) : Below w.heap.size w ((w.alloc X).alloc Y) := ((Below.refl _ _).alloc (Nat.le_refl _) _).alloc (by simp) _

def exA (r : Nat × Nat × Nat × Bool) : Array Value := #[.int .i64 (r.2.1 : Int), .bool r.2.2.2, .int .i64 (r.2.2.1 : Int)]

def ExOk (D : FD) (st : WS) (f : Nat) : Prop := ∀ (w : World) (i j : Nat), Fl D w st → scE (bt D.s) D.nv f i = (j, false) → tbE (bt D.s) D.nv D.T f i →
    Calls Try.prog 108 #[.pointer (some ⟨D.b, 0, none⟩), .int .i64 (i : Int)] w fun e w' => e = .returned (.agg (exA (labE (bt D.s) D.R D.n st.V f i))) ∧ Below w.heap.size w w'

set_option maxHeartbeats 2000000 in
set_option maxRecDepth 100000 in
theorem fExpr_leaf (O : FOk D) (f i j : Nat) (h : Fl D w st) (hsc : scE (bt D.s) D.nv (f + 1) i = (j, false)) (ho : isOp (bt D.s i) = false) :
    Calls Try.prog 108 #[.pointer (some ⟨D.b, 0, none⟩), .int .i64 (i : Int)] w fun e w' => e = .returned (.agg (exA (labE (bt D.s) D.R D.n st.V (f + 1) i))) ∧ Below w.heap.size w w' := by
  have HH := hide h
  have k1 := h.bo O.A
  have k2 := h.tx
  have HF1 := hide (fun (X Y : Obj) => Fl.below h (show Below w.heap.size w ((w.alloc X).alloc Y).drew from ((((Below.refl _ _).alloc (Nat.le_refl _) _).alloc (by simp) _) : Below w.heap.size w ((w.alloc X).alloc Y)).drew))
  have hbz : D.b < w.heap.size := (Array.getElem?_eq_some_iff.1 h).1
  have ⟨hb0, hb1⟩ := bt_bd D.s i
  obtain ⟨rfl, h2⟩ := scE_inv_leaf hsc ho
  clear hsc
  rcases h2 with h2 | ⟨h2, h3⟩
  · have hi := isDB_lt h2
    have hbq := bt_eq D.s i hi
    have hi' : (i : Int) < (D.s.size : Int) := by omega
    have HE := hide (labE_dig (R := D.R) (n := D.n) (V := st.V) (f := f) ho h2)
    have hv : isVar D.nv (bt D.s i) = false := by have := (isDB_iff _ _).1 h2; unfold isVar; simp; omega
    clear h2
    go_enter Try.func108, Try.ntmps108
    go_wp2_with fail
    go_region
    all_goals
      go_wp2_with fail
      refine (pIsVar _ _ 134 D.nv _ (unhide HF1 _ _).cv hb0 hb1).mono ?_
      rintro e w' ⟨rfl, rfl⟩
      rw [hv]
      go_wp2_with fail
      refine (pOp _ _).mono ?_
      rintro e w' ⟨rfl, rfl⟩
      rw [ho]
      go_wp2_with fail
      refine bodyPost_ret (ret_ex Try.results108 _ _ w.heap.size _ _ _ rfl (heap_two w _ _).1) rfl ⟨?_, (below_two w _ _).drew⟩
      rw [unhide HE]; rfl
  · have hi := isVar_lt h3
    have hbq := bt_eq D.s i hi
    have hi' : (i : Int) < (D.s.size : Int) := by omega
    have HE := hide (labE_var (R := D.R) (n := D.n) (V := st.V) (f := f) ho h2)
    obtain ⟨k, hk, hkn⟩ := isVar_nat h3
    have kv := h.lv (k := k) (by have := O.nv; omega)
    have hk8 : (k : Int) < 8 := by have := O.nv; omega
    have h97 : 97 ≤ bt D.s i := by omega
    have HK := hide (show (bt D.s i - 97).toNat = k by omega)
    have HKK := hide hk
    have hv := h3
    clear h2 h3 hk
    go_enter Try.func108, Try.ntmps108
    go_wp2_with fail
    go_region
    all_goals
      go_wp2_with fail
      refine (pIsVar _ _ 134 D.nv _ (unhide HF1 _ _).cv hb0 hb1).mono ?_
      rintro e w' ⟨rfl, rfl⟩
      rw [hv]
      go_wp2_with fail
      go_region_with (go_at_call 84; refine (pVar _ _ 134 _ _ ((unhide HF1 _ _).drew).tx hi h97).mono ?_; rintro e w' ⟨rfl, rfl⟩; rw [unhide HKK])
      all_goals
        go_wp2_with fail
        refine (pOp _ _).mono ?_
        rintro e w' ⟨rfl, rfl⟩
        rw [ho]
        go_wp2_with fail
        refine bodyPost_ret (ret_ex Try.results108 _ _ w.heap.size _ _ _ rfl (heap_two w _ _).1) rfl ⟨?_, (below_two w _ _).drew.drew⟩
        rw [unhide HE, unhide HK]; rfl

end Go.Proofs.Ytfcflnnleadpkab
