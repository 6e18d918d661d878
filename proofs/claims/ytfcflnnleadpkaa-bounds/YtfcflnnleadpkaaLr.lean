import Derived.Test.YtfcflnnleadpkaaBa
import Derived.Laws.Tables
import Derived.Laws.Rows
import Derived.Laws.CopyRow
import Derived.Deep.WholeRow
namespace Go.Proofs.Ytfcflnnleadpkaa
open Go.RowKit

/-- A row of m cells, by its index. -/
def rowF (F : Nat → Value) (m : Nat) : Array Value := ((List.range m).map F).toArray
theorem rowF_size (F : Nat → Value) (m : Nat) : (rowF F m).size = m := by simp [rowF]
theorem rowF_get (F : Nat → Value) (m k : Nat) (h : k < m) : (rowF F m)[k]? = some (F k) := by simp [rowF, h]
theorem rowF_getE (F : Nat → Value) (m k : Nat) (h : k < (rowF F m).size) : (rowF F m)[k] = F k := by simp [rowF]
theorem rowF_congr {F G : Nat → Value} {m : Nat} (h : ∀ k, k < m → F k = G k) : rowF F m = rowF G m := by
  unfold rowF
  congr 1
  apply List.map_congr_left
  intro k hk
  exact h k (by simpa using hk)
theorem rowF_set {F G : Nat → Value} {m a : Nat} {v : Value} (h1 : G a = v) (h : ∀ k, k < m → k ≠ a → F k = G k) : (rowF F m).setIfInBounds a v = rowF G m := by
  apply Array.ext_getElem?
  intro k
  rw [Array.getElem?_setIfInBounds, rowF_size]
  by_cases hk : k < m
  · rw [rowF_get G m k hk, rowF_get F m k hk]
    by_cases e : a = k
    · subst e; rw [if_pos rfl, if_pos hk, h1]
    · rw [if_neg e, h k hk (fun x => e x.symm)]
  · have e1 : (rowF G m)[k]? = none := by rw [Array.getElem?_eq_none]; rw [rowF_size]; omega
    have e2 : (rowF F m)[k]? = none := by rw [Array.getElem?_eq_none]; rw [rowF_size]; omega
    rw [e1, e2]
    split
    · rw [if_neg (by omega)]
    · rfl
theorem rowF_all {F : Nat → Value} {m : Nat} (h : ∀ k, (F k).oneCell' = true) : (rowF F m).all (·.oneCell') = true := by
  rw [Array.all_eq_true_iff_forall_mem]
  intro v hv
  simp [rowF] at hv
  obtain ⟨k, _, rfl⟩ := hv
  exact h k
theorem rowF_cell {w : World} {b k m : Nat} {F : Nat → Value} {t : TypeId} {fr : Nat × Nat} (h : w.heap[b]? = some (.cells (rowF F m) t fr)) (hk : k < m) : w.cell? ⟨b, k, none⟩ = some (F k) := by
  rw [cell_of_row w b k _ t fr h, rowF_get F m k hk]

/-- The cells of a lattice, by index. -/
def latF (e p n : Int) (R : Nat → Nat → Bool) (J : Nat → Nat → Int) (z : Int) (k : Nat) : Value :=
  if k = 0 then .int .i64 e else if k = 1 then .int .i64 p else if k = 2 then .int .i64 n
  else if k < 67 then .bool (R ((k - 3) / 8) ((k - 3) % 8)) else if k < 131 then .int .i64 (J ((k - 67) / 8) ((k - 67) % 8)) else .int .i64 z
def latJ (e p n : Int) (R : Nat → Nat → Bool) (J : Nat → Nat → Int) (z : Int) : Array Value := rowF (latF e p n R J z) 132
def noJ : Nat → Nat → Int := fun _ _ => 0
/-- A lattice whose joins are not kept yet. -/
def latC (e p n : Int) (R : Nat → Nat → Bool) : Array Value := latJ e p n R noJ 0
theorem latC_J (e p n : Int) (R : Nat → Nat → Bool) : latC e p n R = latJ e p n R noJ 0 := rfl

theorem latF_one (e p n : Int) (R : Nat → Nat → Bool) (J : Nat → Nat → Int) (z : Int) (k : Nat) : (latF e p n R J z k).oneCell' = true := by
  unfold latF
  repeat' split
  all_goals rfl
theorem latF_ij (e p n : Int) (R : Nat → Nat → Bool) (J : Nat → Nat → Int) (z : Int) (i j : Nat) (hi : i < 8) (hj : j < 8) : latF e p n R J z (3 + i * 8 + j) = .bool (R i j) := by
  unfold latF
  rw [if_neg (by omega), if_neg (by omega), if_neg (by omega), if_pos (by omega), show (3 + i * 8 + j - 3) / 8 = i by omega, show (3 + i * 8 + j - 3) % 8 = j by omega]
theorem latF_jj (e p n : Int) (R : Nat → Nat → Bool) (J : Nat → Nat → Int) (z : Int) (i j : Nat) (hi : i < 8) (hj : j < 8) : latF e p n R J z (67 + i * 8 + j) = .int .i64 (J i j) := by
  unfold latF
  rw [if_neg (by omega), if_neg (by omega), if_neg (by omega), if_neg (by omega), if_pos (by omega), show (67 + i * 8 + j - 67) / 8 = i by omega, show (67 + i * 8 + j - 67) % 8 = j by omega]
theorem latJ_size (e p n : Int) (R : Nat → Nat → Bool) (J : Nat → Nat → Int) (z : Int) : (latJ e p n R J z).size = 132 := rowF_size _ _
theorem latJ_all (e p n : Int) (R : Nat → Nat → Bool) (J : Nat → Nat → Int) (z : Int) : (latJ e p n R J z).all (·.oneCell') = true := rowF_all (latF_one _ _ _ _ _ _)
theorem latC_size (e p n : Int) (R : Nat → Nat → Bool) : (latC e p n R).size = 132 := rowF_size _ _
theorem latC_all (e p n : Int) (R : Nat → Nat → Bool) : (latC e p n R).all (·.oneCell') = true := latJ_all _ _ _ _ _ _
theorem latC_ij (e p n : Int) (R : Nat → Nat → Bool) (i j : Nat) (hi : i < 8) (hj : j < 8) : (latC e p n R)[3 + i * 8 + j]? = some (.bool (R i j)) := by
  unfold latC latJ
  rw [rowF_get _ _ _ (by omega), latF_ij _ _ _ _ _ _ _ _ hi hj]
theorem latJ_congr (e p n : Int) (R S : Nat → Nat → Bool) (J K : Nat → Nat → Int) (z : Int) (h : ∀ i j, i < 8 → j < 8 → R i j = S i j) (hJ : ∀ i j, i < 8 → j < 8 → J i j = K i j) : latJ e p n R J z = latJ e p n S K z := by
  refine rowF_congr (fun k hk => ?_)
  unfold latF
  by_cases h3 : k < 67
  · repeat' split
    all_goals try rfl
    all_goals first | omega | rw [h ((k - 3) / 8) ((k - 3) % 8) (by omega) (by omega)]
  · repeat' split
    all_goals try rfl
    all_goals first | omega | rw [hJ ((k - 67) / 8) ((k - 67) % 8) (by omega) (by omega)]
theorem latC_congr (e p n : Int) (R S : Nat → Nat → Bool) (h : ∀ i j, i < 8 → j < 8 → R i j = S i j) : latC e p n R = latC e p n S := latJ_congr _ _ _ _ _ _ _ _ h (fun _ _ _ _ => rfl)
theorem latC_set (e p n : Int) (R : Nat → Nat → Bool) (a b : Nat) (v : Bool) (ha : a < 8) (hb : b < 8) : (latC e p n R).setIfInBounds (3 + a * 8 + b) (.bool v) = latC e p n (updV R a b v) := by
  refine rowF_set ?_ (fun k hk hne => ?_)
  · rw [latF_ij _ _ _ _ _ _ _ _ ha hb]; simp [updV]
  · unfold latF
    repeat' split
    all_goals try rfl
    rename_i h1 h2 h3 h4
    have : ((k - 3) / 8 == a && (k - 3) % 8 == b) = false := by
      cases h : ((k - 3) / 8 == a && (k - 3) % 8 == b) with
      | false => rfl
      | true => simp at h; exact absurd (by omega) hne
    simp [updV, this]
def updJ (J : Nat → Nat → Int) (a b : Nat) (v : Int) : Nat → Nat → Int := fun i j => if i == a && j == b then v else J i j
theorem latJ_set (e p n : Int) (R : Nat → Nat → Bool) (J : Nat → Nat → Int) (z : Int) (a b : Nat) (v : Int) (ha : a < 8) (hb : b < 8) : (latJ e p n R J z).setIfInBounds (67 + a * 8 + b) (.int .i64 v) = latJ e p n R (updJ J a b v) z := by
  refine rowF_set ?_ (fun k hk hne => ?_)
  · rw [latF_jj _ _ _ _ _ _ _ _ ha hb]; simp [updJ]
  · unfold latF
    repeat' split
    all_goals try rfl
    rename_i h1 h2 h3 h4 h5
    have : ((k - 67) / 8 == a && (k - 67) % 8 == b) = false := by
      cases h : ((k - 67) / 8 == a && (k - 67) % 8 == b) with
      | false => rfl
      | true => simp at h; exact absurd (by omega) hne
    simp [updJ, this]
theorem latJ_setz (e p n : Int) (R : Nat → Nat → Bool) (J : Nat → Nat → Int) (z z' : Int) : (latJ e p n R J z).setIfInBounds 131 (.int .i64 z') = latJ e p n R J z' := by
  refine rowF_set rfl (fun k hk hne => ?_)
  unfold latF
  repeat' split
  all_goals first | rfl | omega
theorem latC_set0 (e e' p n : Int) (R : Nat → Nat → Bool) : (latC e p n R).setIfInBounds 0 (.int .i64 e') = latC e' p n R := by
  refine rowF_set rfl (fun k hk hne => ?_)
  unfold latF; rw [if_neg hne, if_neg hne]
theorem latC_set1 (e p p' n : Int) (R : Nat → Nat → Bool) : (latC e p n R).setIfInBounds 1 (.int .i64 p') = latC e p' n R := by
  refine rowF_set rfl (fun k hk hne => ?_)
  unfold latF; rw [if_neg hne, if_neg hne]
theorem latC_set2 (e p n n' : Int) (R : Nat → Nat → Bool) : (latC e p n R).setIfInBounds 2 (.int .i64 n') = latC e p n' R := by
  refine rowF_set rfl (fun k hk hne => ?_)
  unfold latF; rw [if_neg hne, if_neg hne]
theorem latJ_g0 (e p n : Int) (R : Nat → Nat → Bool) (J : Nat → Nat → Int) (z : Int) (h : 0 < (latJ e p n R J z).size) : (latJ e p n R J z)[0] = .int .i64 e := rowF_getE _ _ _ h
theorem latJ_g1 (e p n : Int) (R : Nat → Nat → Bool) (J : Nat → Nat → Int) (z : Int) (h : 1 < (latJ e p n R J z).size) : (latJ e p n R J z)[1] = .int .i64 p := rowF_getE _ _ _ h
theorem latC_g0 (e p n : Int) (R : Nat → Nat → Bool) (h : 0 < (latC e p n R).size) : (latC e p n R)[0] = .int .i64 e := rowF_getE _ _ _ h
theorem latC_g1 (e p n : Int) (R : Nat → Nat → Bool) (h : 1 < (latC e p n R).size) : (latC e p n R)[1] = .int .i64 p := rowF_getE _ _ _ h

end Go.Proofs.Ytfcflnnleadpkaa
