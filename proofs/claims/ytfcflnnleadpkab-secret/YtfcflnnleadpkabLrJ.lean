import Derived.Test.YtfcflnnleadpkabMaJ
import Derived.Laws.Tables
import Derived.Laws.Rows
import Derived.Laws.CopyRow
import Derived.Deep.WholeRow
import Derived.Laws.CopyOwn
import Derived.RegionTactic
import Derived.ChangeAlike
import Derived.BigRegion
import Derived.BigQuiet
import Derived.Deep.QuietTactic
namespace Go.Proofs.Ytfcflnnleadpkab
open Go.RowKit

/-- A row of m cells, by its index. -/
def rowF (F : Nat → Value) (m : Nat) : Array Value := ((List.range m).map F).toArray
theorem rowF_size (F : Nat → Value) (m : Nat) : (rowF F m).size = m := by simp [rowF]
theorem rowF_get (F : Nat → Value) (m k : Nat) (h : k < m) : (rowF F m)[k]? = some (F k) := by simp [rowF, h]
theorem rowF_getE (F : Nat → Value) (m k : Nat) (h : k < (rowF F m).size) : (rowF F m)[k] = F k := by simp [rowF]
theorem rowF_congr {F G : Nat → Value} {m : Nat} (h : ∀ k, k < m → F k = G k) : rowF F m = rowF G m := by
  unfold rowF
  congr 1
  apply List.map_congr_left
  intro k hk
  exact h k (by simpa using hk)
theorem rowF_set {F G : Nat → Value} {m a : Nat} {v : Value} (h1 : G a = v) (h : ∀ k, k < m → k ≠ a → F k = G k) : (rowF F m).setIfInBounds a v = rowF G m := by
  apply Array.ext_getElem?
  intro k
  rw [Array.getElem?_setIfInBounds, rowF_size]
  by_cases hk : k < m
  · rw [rowF_get G m k hk, rowF_get F m k hk]
    by_cases e : a = k
    · subst e; rw [if_pos rfl, if_pos hk, h1]
    · rw [if_neg e, h k hk (fun x => e x.symm)]
  · have e1 : (rowF G m)[k]? = none := by rw [Array.getElem?_eq_none]; rw [rowF_size]; omega
    have e2 : (rowF F m)[k]? = none := by rw [Array.getElem?_eq_none]; rw [rowF_size]; omega
    rw [e1, e2]
    split
    · rw [if_neg (by omega)]
    · rfl
theorem rowF_all {F : Nat → Value} {m : Nat} (h : ∀ k, (F k).oneCell' = true) : (rowF F m).all (·.oneCell') = true := by
  rw [Array.all_eq_true_iff_forall_mem]
  intro v hv
  simp [rowF] at hv
  obtain ⟨k, _, rfl⟩ := hv
  exact h k
theorem rowF_cell {w : World} {b k m : Nat} {F : Nat → Value} {t : TypeId} {fr : Nat × Nat} (h : w.heap[b]? = some (.cells (rowF F m) t fr)) (hk : k < m) : w.cell? ⟨b, k, none⟩ = some (F k) := by
  rw [cell_of_row w b k _ t fr h, rowF_get F m k hk]

/-- The cells of a lattice, by index. -/
def latF (e p n : Int) (R : Nat → Nat → Bool) (J : Nat → Nat → Int) (z : Int) (k : Nat) : Value :=
  if k = 0 then .int .i64 e else if k = 1 then .int .i64 p else if k = 2 then .int .i64 n
  else if k < 67 then .bool (R ((k - 3) / 8) ((k - 3) % 8)) else if k < 131 then .int .i64 (J ((k - 67) / 8) ((k - 67) % 8)) else .int .i64 z
def latJ (e p n : Int) (R : Nat → Nat → Bool) (J : Nat → Nat → Int) (z : Int) : Array Value := rowF (latF e p n R J z) 132
def noJ : Nat → Nat → Int := fun _ _ => 0
/-- A lattice whose joins are not kept yet. -/
def latC (e p n : Int) (R : Nat → Nat → Bool) : Array Value := latJ e p n R noJ 0
theorem latC_J (e p n : Int) (R : Nat → Nat → Bool) : latC e p n R = latJ e p n R noJ 0 := rfl

theorem latF_one (e p n : Int) (R : Nat → Nat → Bool) (J : Nat → Nat → Int) (z : Int) (k : Nat) : (latF e p n R J z k).oneCell' = true := by
  unfold latF
  repeat' split
  all_goals rfl
theorem latF_ij (e p n : Int) (R : Nat → Nat → Bool) (J : Nat → Nat → Int) (z : Int) (i j : Nat) (hi : i < 8) (hj : j < 8) : latF e p n R J z (3 + i * 8 + j) = .bool (R i j) := by
  unfold latF
  rw [if_neg (by omega), if_neg (by omega), if_neg (by omega), if_pos (by omega), show (3 + i * 8 + j - 3) / 8 = i by omega, show (3 + i * 8 + j - 3) % 8 = j by omega]
theorem latF_jj (e p n : Int) (R : Nat → Nat → Bool) (J : Nat → Nat → Int) (z : Int) (i j : Nat) (hi : i < 8) (hj : j < 8) : latF e p n R J z (67 + i * 8 + j) = .int .i64 (J i j) := by
  unfold latF
  rw [if_neg (by omega), if_neg (by omega), if_neg (by omega), if_neg (by omega), if_pos (by omega), show (67 + i * 8 + j - 67) / 8 = i by omega, show (67 + i * 8 + j - 67) % 8 = j by omega]
theorem latJ_size (e p n : Int) (R : Nat → Nat → Bool) (J : Nat → Nat → Int) (z : Int) : (latJ e p n R J z).size = 132 := rowF_size _ _
theorem latJ_all (e p n : Int) (R : Nat → Nat → Bool) (J : Nat → Nat → Int) (z : Int) : (latJ e p n R J z).all (·.oneCell') = true := rowF_all (latF_one _ _ _ _ _ _)
theorem latC_size (e p n : Int) (R : Nat → Nat → Bool) : (latC e p n R).size = 132 := rowF_size _ _
theorem latC_all (e p n : Int) (R : Nat → Nat → Bool) : (latC e p n R).all (·.oneCell') = true := latJ_all _ _ _ _ _ _
theorem latC_ij (e p n : Int) (R : Nat → Nat → Bool) (i j : Nat) (hi : i < 8) (hj : j < 8) : (latC e p n R)[3 + i * 8 + j]? = some (.bool (R i j)) := by
  unfold latC latJ
  rw [rowF_get _ _ _ (by omega), latF_ij _ _ _ _ _ _ _ _ hi hj]
theorem latJ_congr (e p n : Int) (R S : Nat → Nat → Bool) (J K : Nat → Nat → Int) (z : Int) (h : ∀ i j, i < 8 → j < 8 → R i j = S i j) (hJ : ∀ i j, i < 8 → j < 8 → J i j = K i j) : latJ e p n R J z = latJ e p n S K z := by
  refine rowF_congr (fun k hk => ?_)
  unfold latF
  by_cases h3 : k < 67
  · repeat' split
    all_goals try rfl
    all_goals first | omega | rw [h ((k - 3) / 8) ((k - 3) % 8) (by omega) (by omega)]
  · repeat' split
    all_goals try rfl
    all_goals first | omega | rw [hJ ((k - 67) / 8) ((k - 67) % 8) (by omega) (by omega)]
theorem latC_congr (e p n : Int) (R S : Nat → Nat → Bool) (h : ∀ i j, i < 8 → j < 8 → R i j = S i j) : latC e p n R = latC e p n S := latJ_congr _ _ _ _ _ _ _ _ h (fun _ _ _ _ => rfl)
theorem latC_set (e p n : Int) (R : Nat → Nat → Bool) (a b : Nat) (v : Bool) (ha : a < 8) (hb : b < 8) : (latC e p n R).setIfInBounds (3 + a * 8 + b) (.bool v) = latC e p n (updV R a b v) := by
  refine rowF_set ?_ (fun k hk hne => ?_)
  · rw [latF_ij _ _ _ _ _ _ _ _ ha hb]; simp [updV]
  · unfold latF
    repeat' split
    all_goals try rfl
    rename_i h1 h2 h3 h4
    have : ((k - 3) / 8 == a && (k - 3) % 8 == b) = false := by
      cases h : ((k - 3) / 8 == a && (k - 3) % 8 == b) with
      | false => rfl
      | true => simp at h; exact absurd (by omega) hne
    simp [updV, this]
def updJ (J : Nat → Nat → Int) (a b : Nat) (v : Int) : Nat → Nat → Int := fun i j => if i == a && j == b then v else J i j
theorem latJ_set (e p n : Int) (R : Nat → Nat → Bool) (J : Nat → Nat → Int) (z : Int) (a b : Nat) (v : Int) (ha : a < 8) (hb : b < 8) : (latJ e p n R J z).setIfInBounds (67 + a * 8 + b) (.int .i64 v) = latJ e p n R (updJ J a b v) z := by
  refine rowF_set ?_ (fun k hk hne => ?_)
  · rw [latF_jj _ _ _ _ _ _ _ _ ha hb]; simp [updJ]
  · unfold latF
    repeat' split
    all_goals try rfl
    rename_i h1 h2 h3 h4 h5
    have : ((k - 67) / 8 == a && (k - 67) % 8 == b) = false := by
      cases h : ((k - 67) / 8 == a && (k - 67) % 8 == b) with
      | false => rfl
      | true => simp at h; exact absurd (by omega) hne
    simp [updJ, this]
theorem latJ_setz (e p n : Int) (R : Nat → Nat → Bool) (J : Nat → Nat → Int) (z z' : Int) : (latJ e p n R J z).setIfInBounds 131 (.int .i64 z') = latJ e p n R J z' := by
  refine rowF_set rfl (fun k hk hne => ?_)
  unfold latF
  repeat' split
  all_goals first | rfl | omega
theorem latC_set0 (e e' p n : Int) (R : Nat → Nat → Bool) : (latC e p n R).setIfInBounds 0 (.int .i64 e') = latC e' p n R := by
  refine rowF_set rfl (fun k hk hne => ?_)
  unfold latF; rw [if_neg hne, if_neg hne]
theorem latC_set1 (e p p' n : Int) (R : Nat → Nat → Bool) : (latC e p n R).setIfInBounds 1 (.int .i64 p') = latC e p' n R := by
  refine rowF_set rfl (fun k hk hne => ?_)
  unfold latF; rw [if_neg hne, if_neg hne]
theorem latC_set2 (e p n n' : Int) (R : Nat → Nat → Bool) : (latC e p n R).setIfInBounds 2 (.int .i64 n') = latC e p n' R := by
  refine rowF_set rfl (fun k hk hne => ?_)
  unfold latF; rw [if_neg hne, if_neg hne]
theorem latJ_g0 (e p n : Int) (R : Nat → Nat → Bool) (J : Nat → Nat → Int) (z : Int) (h : 0 < (latJ e p n R J z).size) : (latJ e p n R J z)[0] = .int .i64 e := rowF_getE _ _ _ h
theorem latJ_g1 (e p n : Int) (R : Nat → Nat → Bool) (J : Nat → Nat → Int) (z : Int) (h : 1 < (latJ e p n R J z).size) : (latJ e p n R J z)[1] = .int .i64 p := rowF_getE _ _ _ h
theorem latC_g0 (e p n : Int) (R : Nat → Nat → Bool) (h : 0 < (latC e p n R).size) : (latC e p n R)[0] = .int .i64 e := rowF_getE _ _ _ h
theorem latC_g1 (e p n : Int) (R : Nat → Nat → Bool) (h : 1 < (latC e p n R).size) : (latC e p n R)[1] = .int .i64 p := rowF_getE _ _ _ h

end Go.Proofs.Ytfcflnnleadpkab

namespace Go.Proofs.Ytfcflnnleadpkab
open Go.RowKit

/-- A lattice in memory at the block b: its count and its table. -/
structure LatM (w : World) (b o : Nat) (n : Nat) (R : Nat → Nat → Bool) : Prop where
  cnt : w.cell? ⟨b, o + 2, none⟩ = some (.int .i64 (n : Int))
  bel : ∀ i j, i < 8 → j < 8 → w.cell? ⟨b, o + 3 + i * 8 + j, none⟩ = some (.bool (R i j))

set_option maxHeartbeats 400000 in
theorem has_any (w : World) (b o n : Nat) (a : Int) (hc : w.cell? ⟨b, o + 2, none⟩ = some (.int .i64 (n : Int))) :
    Calls Try.prog 92 #[.pointer (some ⟨b, o, none⟩), .int .i64 a] w fun e w' => e = .returned (.bool (decide (0 ≤ a ∧ a < (n : Int)))) ∧ w' = w := by
  by_cases h0 : 0 ≤ a
  · by_cases h1 : a < (n : Int)
    · go_enter Try.func92, Try.ntmps92
      go_wp2
      go_ret
      exact ⟨by simp [h0, h1], rfl⟩
    · go_enter Try.func92, Try.ntmps92
      go_wp2
      go_ret
      exact ⟨by simp [h1], rfl⟩
  · have hd : decide (0 ≤ a) = false := by simpa using h0
    have hr : decide (0 ≤ a ∧ a < (n : Int)) = false := by simp; omega
    go_enter Try.func92, Try.ntmps92
    go_wp2
    go_ret
    exact ⟨rfl, rfl⟩

set_option maxHeartbeats 400000 in
theorem isBelow_any (w : World) (b o n i j : Nat) (R : Nat → Nat → Bool) (hn : n ≤ 8) (hl : LatM w b o n R) (hi : i < n) (hj : j < n) :
    Calls Try.prog 73 #[.pointer (some ⟨b, o, none⟩), .int .i64 (i : Int), .int .i64 (j : Int)] w fun e w' => e = .returned (.bool (R i j)) ∧ w' = w := by
  have hc := hl.cnt
  have hb := hl.bel i j (by omega) (by omega)
  have q1 : decide (0 ≤ (i : Int) ∧ (i : Int) < (n : Int)) = true := by simp; omega
  have q2 : decide (0 ≤ (j : Int) ∧ (j : Int) < (n : Int)) = true := by simp; omega
  have hi' : (i : Int) < 8 := by omega
  have hj' : (j : Int) < 8 := by omega
  go_enter Try.func73, Try.ntmps73
  go_wp2_with (go_at_call 92; refine (has_any _ _ _ _ _ hc).mono ?_; rintro e w' ⟨rfl, rfl⟩)
  go_ret
  exact ⟨rfl, rfl⟩

set_option maxHeartbeats 400000 in
theorem bothBelow_any (w : World) (b o n i j k : Nat) (R : Nat → Nat → Bool) (hn : n ≤ 8) (hl : LatM w b o n R) (hi : i < n) (hj : j < n) (hk : k < n) :
    Calls Try.prog 105 #[.pointer (some ⟨b, o, none⟩), .int .i64 (i : Int), .int .i64 (j : Int), .int .i64 (k : Int)] w fun e w' => e = .returned (.bool (Hm.both R i j k)) ∧ w' = w := by
  unfold Hm.both
  cases h1 : R i k
  · go_enter Try.func105, Try.ntmps105
    go_wp2_with fail
    refine (isBelow_any _ _ _ _ _ _ _ hn hl hi hk).mono ?_
    rintro e w' ⟨rfl, rfl⟩
    go_wp2_with fail
    go_ret
    exact ⟨rfl, rfl⟩
  · go_enter Try.func105, Try.ntmps105
    go_wp2_with fail
    refine (isBelow_any _ _ _ _ _ _ _ hn hl hi hk).mono ?_
    rintro e w' ⟨rfl, rfl⟩
    go_wp2_with fail
    refine (isBelow_any _ _ _ _ _ _ _ hn hl hj hk).mono ?_
    rintro e w' ⟨rfl, rfl⟩
    go_wp2_with fail
    go_ret
    exact ⟨rfl, rfl⟩

set_option maxHeartbeats 400000 in
theorem isJoin_any (w : World) (b o n i j k : Nat) (R : Nat → Nat → Bool) (hn : n ≤ 8) (hl : LatM w b o n R) (hi : i < n) (hj : j < n) (hk : k < n) :
    Calls Try.prog 91 #[.pointer (some ⟨b, o, none⟩), .int .i64 (i : Int), .int .i64 (j : Int), .int .i64 (k : Int)] w fun e w' => e = .returned (.bool (Hm.lub R n i j k)) ∧ w' = w := by
  have hc := hl.cnt
  cases h1 : Hm.both R i j k
  · have HF := hide (show Hm.lub R n i j k = false by simp [Hm.lub, h1])
    go_enter Try.func91, Try.ntmps91
    go_wp2_with fail
    refine (bothBelow_any _ _ _ _ _ _ _ _ hn hl hi hj hk).mono ?_
    rintro e w' ⟨rfl, rfl⟩
    go_wp2_with fail
    go_ret
    exact ⟨by rw [unhide HF]; rfl, rfl⟩
  · have HF := hide (show Hm.lub R n i j k = Hm.allB (Hm.lubD R i j k) n 0 by simp [Hm.lub, h1])
    go_enter Try.func91, Try.ntmps91
    go_wp2_with fail
    refine (bothBelow_any _ _ _ _ _ _ _ _ hn hl hi hj hk).mono ?_
    rintro e w' ⟨rfl, rfl⟩
    go_wp2_with fail
    go_loop [9] (fun d => ∃ m : Nat, m ≤ n ∧ d = .int .i64 (m : Int) ∧ Hm.allB (Hm.lubD R i j k) n 0 = Hm.allB (Hm.lubD R i j k) (n - m) m) (fun d => n - (intOf d).toNat)
    case atStart => exact ⟨0, Nat.zero_le _, rfl, rfl⟩
    case round =>
      obtain ⟨m, hm, rfl, hq⟩ := hrel
      have HQ := hide hq
      clear hq
      by_cases hlt : m < n
      · cases h2 : Hm.both R i j m
        · have HS := hide (Hm.allB_yes (p := Hm.lubD R i j k) hlt (by simp [Hm.lubD, h2]))
          go_wp2_with fail
          refine (bothBelow_any _ _ _ _ _ _ _ _ hn hl hi hj hlt).mono ?_
          rintro e w' ⟨rfl, rfl⟩
          go_wp2_with fail
          go_round
          case rel => exact ⟨m + 1, by omega, by go_num, by rw [unhide HQ, unhide HS]⟩
          case measure => simp [intOf]; omega
        · cases h3 : R k m
          · have HS := hide (Hm.allB_no (p := Hm.lubD R i j k) hlt (by simp [Hm.lubD, h2, h3]))
            go_wp2_with fail
            refine (bothBelow_any _ _ _ _ _ _ _ _ hn hl hi hj hlt).mono ?_
            rintro e w' ⟨rfl, rfl⟩
            go_wp2_with fail
            refine (isBelow_any _ _ _ _ _ _ _ hn hl hk hlt).mono ?_
            rintro e w' ⟨rfl, rfl⟩
            go_wp2_with fail
            go_ret
            exact ⟨by rw [unhide HF, unhide HQ, unhide HS]; rfl, rfl⟩
          · have HS := hide (Hm.allB_yes (p := Hm.lubD R i j k) hlt (by simp [Hm.lubD, h2, h3]))
            go_wp2_with fail
            refine (bothBelow_any _ _ _ _ _ _ _ _ hn hl hi hj hlt).mono ?_
            rintro e w' ⟨rfl, rfl⟩
            go_wp2_with fail
            refine (isBelow_any _ _ _ _ _ _ _ hn hl hk hlt).mono ?_
            rintro e w' ⟨rfl, rfl⟩
            go_wp2_with fail
            go_round
            case rel => exact ⟨m + 1, by omega, by go_num, by rw [unhide HQ, unhide HS]⟩
            case measure => simp [intOf]; omega
      · have HS := hide (Hm.allB_end (p := Hm.lubD R i j k) (n := n) (k := m) (by omega))
        go_wp2_with fail
        go_ret
        exact ⟨by rw [unhide HF, unhide HQ, unhide HS]; rfl, rfl⟩

end Go.Proofs.Ytfcflnnleadpkab

namespace Go.Proofs.Ytfcflnnleadpkab
open Go.RowKit

set_option maxHeartbeats 400000 in
theorem findJoin_any (w : World) (b o n i j : Nat) (R : Nat → Nat → Bool) (hn : n ≤ 8) (hl : LatM w b o n R) (hi : i < n) (hj : j < n) :
    Calls Try.prog 72 #[.pointer (some ⟨b, o, none⟩), .int .i64 (i : Int), .int .i64 (j : Int)] w fun e w' => e = .returned (.int .i64 (Hm.joinI R n i j)) ∧ w' = w := by
  have hc := hl.cnt
  have HF := hide (show Hm.joinI R n i j = Hm.firstB (Hm.lub R n i j) n 0 from rfl)
  go_enter Try.func72, Try.ntmps72
  go_wp2_with fail
  go_loop [7] (fun d => ∃ m : Nat, m ≤ n ∧ d = .int .i64 (m : Int) ∧ Hm.firstB (Hm.lub R n i j) n 0 = Hm.firstB (Hm.lub R n i j) (n - m) m) (fun d => n - (intOf d).toNat)
  case atStart => exact ⟨0, Nat.zero_le _, rfl, rfl⟩
  case round =>
    obtain ⟨m, hm, rfl, hq⟩ := hrel
    have HQ := hide hq
    clear hq
    by_cases hlt : m < n
    · cases h2 : Hm.lub R n i j m
      · have HS := hide (Hm.firstB_no (p := Hm.lub R n i j) hlt h2)
        go_wp2_with fail
        refine (isJoin_any _ _ _ _ _ _ _ _ hn hl hi hj hlt).mono ?_
        rintro e w' ⟨rfl, rfl⟩
        go_wp2_with fail
        go_round
        case rel => exact ⟨m + 1, by omega, by go_num, by rw [unhide HQ, unhide HS]⟩
        case measure => simp [intOf]; omega
      · have HS := hide (Hm.firstB_yes (p := Hm.lub R n i j) hlt h2)
        go_wp2_with fail
        refine (isJoin_any _ _ _ _ _ _ _ _ hn hl hi hj hlt).mono ?_
        rintro e w' ⟨rfl, rfl⟩
        go_wp2_with fail
        go_ret
        exact ⟨by rw [unhide HF, unhide HQ, unhide HS]; rfl, rfl⟩
    · have HS := hide (Hm.firstB_end (p := Hm.lub R n i j) (n := n) (k := m) (by omega))
      go_wp2_with fail
      go_ret
      exact ⟨by rw [unhide HF, unhide HQ, unhide HS]; rfl, rfl⟩

set_option maxHeartbeats 400000 in
theorem hasCircle_any (w : World) (b o n : Nat) (R : Nat → Nat → Bool) (hn : n ≤ 8) (hl : LatM w b o n R) :
    Calls Try.prog 69 #[.pointer (some ⟨b, o, none⟩)] w fun e w' => e = .returned (.bool (Hm.circ R n)) ∧ w' = w := by
  have hc := hl.cnt
  have HF := hide (show Hm.circ R n = Hm.anyB (Hm.circRow R) n 0 from rfl)
  go_enter Try.func69, Try.ntmps69
  go_wp2_with fail
  go_loop [3] (fun d => ∃ a : Nat, a ≤ n ∧ d = .int .i64 (a : Int) ∧ Hm.anyB (Hm.circRow R) n 0 = Hm.anyB (Hm.circRow R) (n - a) a) (fun d => n - (intOf d).toNat)
  case atStart => exact ⟨0, Nat.zero_le _, rfl, rfl⟩
  case round =>
    obtain ⟨a, ha, rfl, hq⟩ := hrel
    have HQ := hide hq
    clear hq
    by_cases hlt : a < n
    · have HY := hide (fun h => Hm.anyB_yes (p := Hm.circRow R) hlt h)
      have HN := hide (fun h => Hm.anyB_no (p := Hm.circRow R) hlt h)
      have HG := hide (show Hm.circRow R a = Hm.anyB (Hm.circD R a) a 0 from rfl)
      have ha' : (a : Int) < 8 := by omega
      go_wp2_with fail
      go_loop [4] (fun d => ∃ m : Nat, m ≤ a ∧ d = .int .i64 (m : Int) ∧ Hm.anyB (Hm.circD R a) a 0 = Hm.anyB (Hm.circD R a) (a - m) m) (fun d => a - (intOf d).toNat)
      case atStart => exact ⟨0, Nat.zero_le _, rfl, rfl⟩
      case round =>
        obtain ⟨m, hm, rfl, hq⟩ := hrel
        have HP := hide hq
        clear hq
        by_cases hlm : m < a
        · have hb1 := hl.bel a m (by omega) (by omega)
          have hb2 := hl.bel m a (by omega) (by omega)
          have hm' : (m : Int) < 8 := by omega
          cases h1 : R a m
          · have HS := hide (Hm.anyB_no (p := Hm.circD R a) hlm (by simp [Hm.circD, h1]))
            rw [h1] at hb1
            go_wp2_with fail
            go_round
            case rel => exact ⟨m + 1, by omega, by go_num, by rw [unhide HP, unhide HS]⟩
            case measure => simp [intOf]; omega
          · rw [h1] at hb1
            cases h2 : R m a
            · have HS := hide (Hm.anyB_no (p := Hm.circD R a) hlm (by simp [Hm.circD, h2]))
              rw [h2] at hb2
              go_wp2_with fail
              go_round
              case rel => exact ⟨m + 1, by omega, by go_num, by rw [unhide HP, unhide HS]⟩
              case measure => simp [intOf]; omega
            · have HS := hide (Hm.anyB_yes (p := Hm.circD R a) hlm (by simp [Hm.circD, h1, h2]))
              rw [h2] at hb2
              go_wp2_with fail
              go_ret
              exact ⟨by rw [unhide HF, unhide HQ, unhide HY (by rw [unhide HG, unhide HP, unhide HS])]; rfl, rfl⟩
        · have HS := hide (Hm.anyB_end (p := Hm.circD R a) (n := a) (k := m) (by omega))
          go_wp2_with fail
          go_round
          case rel => exact ⟨a + 1, by omega, by go_num, by rw [unhide HQ, unhide HN (by rw [unhide HG, unhide HP, unhide HS])]⟩
          case measure => simp [intOf]; omega
    · have HS := hide (Hm.anyB_end (p := Hm.circRow R) (n := n) (k := a) (by omega))
      go_wp2_with fail
      go_ret
      exact ⟨by rw [unhide HF, unhide HQ, unhide HS]; rfl, rfl⟩

set_option maxHeartbeats 400000 in
theorem hasJoins_any (w : World) (b o n : Nat) (R : Nat → Nat → Bool) (hn : n ≤ 8) (hl : LatM w b o n R) :
    Calls Try.prog 70 #[.pointer (some ⟨b, o, none⟩)] w fun e w' => e = .returned (.bool (Hm.hasJ R n)) ∧ w' = w := by
  have hc := hl.cnt
  have HF := hide (show Hm.hasJ R n = Hm.allB (Hm.hasRow R n) n 0 from rfl)
  go_enter Try.func70, Try.ntmps70
  go_wp2_with fail
  go_loop [3] (fun d => ∃ a : Nat, a ≤ n ∧ d = .int .i64 (a : Int) ∧ Hm.allB (Hm.hasRow R n) n 0 = Hm.allB (Hm.hasRow R n) (n - a) a) (fun d => n - (intOf d).toNat)
  case atStart => exact ⟨0, Nat.zero_le _, rfl, rfl⟩
  case round =>
    obtain ⟨a, ha, rfl, hq⟩ := hrel
    have HQ := hide hq
    clear hq
    by_cases hlt : a < n
    · have HY := hide (fun h => Hm.allB_yes (p := Hm.hasRow R n) hlt h)
      have HN := hide (fun h => Hm.allB_no (p := Hm.hasRow R n) hlt h)
      have HG := hide (show Hm.hasRow R n a = Hm.allB (Hm.hasD R n a) a 0 from rfl)
      go_wp2_with fail
      go_loop [4] (fun d => ∃ m : Nat, m ≤ a ∧ d = .int .i64 (m : Int) ∧ Hm.allB (Hm.hasD R n a) a 0 = Hm.allB (Hm.hasD R n a) (a - m) m) (fun d => a - (intOf d).toNat)
      case atStart => exact ⟨0, Nat.zero_le _, rfl, rfl⟩
      case round =>
        obtain ⟨m, hm, rfl, hq⟩ := hrel
        have HP := hide hq
        clear hq
        by_cases hlm : m < a
        · have hmn : m < n := by omega
          cases h1 : (Hm.joinI R n a m == -1)
          · have HS := hide (Hm.allB_yes (p := Hm.hasD R n a) hlm (by unfold Hm.hasD; rw [h1]; rfl))
            go_wp2_with fail
            refine (findJoin_any _ _ _ _ _ _ _ hn hl hlt hmn).mono ?_
            rintro e w' ⟨rfl, rfl⟩
            go_wp2_with fail
            go_round
            case rel => exact ⟨m + 1, by omega, by go_num, by rw [unhide HP, unhide HS]⟩
            case measure => simp [intOf]; omega
          · have HS := hide (Hm.allB_no (p := Hm.hasD R n a) hlm (by unfold Hm.hasD; rw [h1]; rfl))
            go_wp2_with fail
            refine (findJoin_any _ _ _ _ _ _ _ hn hl hlt hmn).mono ?_
            rintro e w' ⟨rfl, rfl⟩
            go_wp2_with fail
            go_ret
            exact ⟨by rw [unhide HF, unhide HQ, unhide HN (by rw [unhide HG, unhide HP, unhide HS])]; rfl, rfl⟩
        · have HS := hide (Hm.allB_end (p := Hm.hasD R n a) (n := a) (k := m) (by omega))
          go_wp2_with fail
          go_round
          case rel => exact ⟨a + 1, by omega, by go_num, by rw [unhide HQ, unhide HY (by rw [unhide HG, unhide HP, unhide HS])]⟩
          case measure => simp [intOf]; omega
    · have HS := hide (Hm.allB_end (p := Hm.hasRow R n) (n := n) (k := a) (by omega))
      go_wp2_with fail
      go_ret
      exact ⟨by rw [unhide HF, unhide HQ, unhide HS]; rfl, rfl⟩

end Go.Proofs.Ytfcflnnleadpkab

namespace Go.Proofs.Ytfcflnnleadpkab
open Go.RowKit

theorem LatM.c0 {w : World} {b n : Nat} {R : Nat → Nat → Bool} (h : LatM w b 0 n R) : w.cell? ⟨b, 2, none⟩ = some (.int .i64 (n : Int)) := by simpa using h.cnt
theorem LatM.b0 {w : World} {b n : Nat} {R : Nat → Nat → Bool} (h : LatM w b 0 n R) (i j : Nat) (hi : i < 8) (hj : j < 8) : w.cell? ⟨b, 3 + i * 8 + j, none⟩ = some (.bool (R i j)) := by simpa using h.bel i j hi hj
theorem latJ_lat {w : World} {b n : Nat} {e p : Int} {R : Nat → Nat → Bool} {J : Nat → Nat → Int} {z : Int} {t : TypeId} {fr : Nat × Nat} (h : w.heap[b]? = some (.cells (latJ e p n R J z) t fr)) : LatM w b 0 n R :=
  ⟨rowF_cell h (by omega), fun i j hi hj => by rw [show 0 + 3 + i * 8 + j = 3 + i * 8 + j by omega, rowF_cell h (by omega), latF_ij _ _ _ _ _ _ _ _ hi hj]⟩
theorem latC_lat {w : World} {b n : Nat} {e p : Int} {R : Nat → Nat → Bool} {t : TypeId} {fr : Nat × Nat} (h : w.heap[b]? = some (.cells (latC e p n R) t fr)) : LatM w b 0 n R := latJ_lat h
theorem lat_set {w : World} {b : Nat} {n e p : Int} {R S : Nat → Nat → Bool} {t : TypeId} {fr : Nat × Nat} (h : w.heap[b]? = some (.cells (latC e p n R) t fr)) {i j : Nat} {v : Bool} (hi : i < 8) (hj : j < 8)
    (hS : ∀ x y, x < 8 → y < 8 → updV R i j v x y = S x y) : w.setCell ⟨b, 3 + i * 8 + j, none⟩ (.bool v) = w.setRow b (latC e p n S) := by
  rw [setCell_eq_setRow w b _ _ t fr _ h, latC_set _ _ _ _ _ _ _ hi hj, latC_congr _ _ _ _ S hS]

set_option maxHeartbeats 1000000 in
set_option maxRecDepth 100000 in
theorem addSteps_any (w : World) (b n : Nat) (R : Nat → Nat → Bool) (t : TypeId) (hn : n ≤ 8) (hg : w.heap[b]? = some (.cells (latC 0 0 n R) t (0, 0))) :
    Calls Try.prog 40 #[.pointer (some ⟨b, 0, none⟩)] w fun e w' => e = .returned (.tuple #[]) ∧ w' = w.setRow b (latC 0 0 n (wf n R n)) := by
  have HG := hide (fun S : Nat → Nat → Bool => setRow_heap w b _ (latC 0 0 n S) t (0, 0) hg)
  have HC := hide (fun S : Nat → Nat → Bool => latC_lat (setRow_heap w b _ (latC 0 0 n S) t (0, 0) hg))
  have HZ := hide (fun (S : Nat → Nat → Bool) j => frozen_of_row (w.setRow b (latC 0 0 n S)) b j _ t (setRow_heap w b _ _ t (0, 0) hg))
  have HS := hide (show w = w.setRow b (latC 0 0 n (diagU R 0)) by
    rw [latC_congr 0 0 n (diagU R 0) R (fun i j _ _ => by simp [diagU]), setRow_self w b _ t (0, 0) hg])
  clear hg
  go_enter Try.func40, Try.ntmps40
  go_wp2_with fail
  go_loopw [2] (fun d wr => ∃ a : Nat, a ≤ n ∧ d = .int .i64 (a : Int) ∧ wr = w.setRow b (latC 0 0 n (diagU R a))) (fun d _ => n - (intOf d).toNat)
  case atStart => exact ⟨0, Nat.zero_le _, rfl, unhide HS⟩
  case round =>
    obtain ⟨a, ha, rfl, rfl⟩ := hrel
    have hc := (unhide HC (diagU R a)).c0
    by_cases hlt : a < n
    · have hb := (unhide HC (diagU R a)).b0 a a (by omega) (by omega)
      have hz := unhide HZ (diagU R a) (3 + a * 8 + a)
      have ha' : (a : Int) < 8 := by omega
      go_wp2_with fail
      go_roundw
      case rel => exact ⟨a + 1, by omega, by go_num, by rw [lat_set (unhide HG (diagU R a)) (by omega) (by omega) (fun x y _ _ => diagU_step R a x y), setRow_setRow]⟩
      case measure => simp [intOf]; omega
    · have ea : a = n := by omega
      subst ea
      go_wp2_with fail
      clear hc
      go_loopw [3] (fun d wr => ∃ k : Nat, k ≤ a ∧ d = .int .i64 (k : Int) ∧ wr = w.setRow b (latC 0 0 a (wf a R k))) (fun d _ => a - (intOf d).toNat)
      case atStart => exact ⟨0, Nat.zero_le _, rfl, rfl⟩
      case round =>
        obtain ⟨k, hk, rfl, rfl⟩ := hrel
        have hc := (unhide HC (wf a R k)).c0
        by_cases hlk : k < a
        · have hk' : (k : Int) < 8 := by omega
          have HK := hide (show wf a R (k + 1) = stp a (wf a R k) k a 0 from rfl)
          generalize wf a R k = S at *
          go_wp2_with fail
          clear hc
          go_loopw [4] (fun d wr => ∃ i : Nat, i ≤ a ∧ d = .int .i64 (i : Int) ∧ wr = w.setRow b (latC 0 0 a (stp a S k i 0))) (fun d _ => a - (intOf d).toNat)
          case atStart => exact ⟨0, Nat.zero_le _, rfl, by rw [stp_zero]⟩
          case round =>
            obtain ⟨i, hi, rfl, rfl⟩ := hrel
            have hc := (unhide HC (stp a S k i 0)).c0
            by_cases hli : i < a
            · have hi' : (i : Int) < 8 := by omega
              go_wp2_with fail
              clear hc
              go_loopw [5] (fun d wr => ∃ j : Nat, j ≤ a ∧ d = .int .i64 (j : Int) ∧ wr = w.setRow b (latC 0 0 a (stp a S k i j))) (fun d _ => a - (intOf d).toNat)
              case atStart => exact ⟨0, Nat.zero_le _, rfl, rfl⟩
              case round =>
                obtain ⟨j, hj, rfl, rfl⟩ := hrel
                have hc := (unhide HC (stp a S k i j)).c0
                by_cases hlj : j < a
                · have hj' : (j : Int) < 8 := by omega
                  have b1 := (unhide HC (stp a S k i j)).b0 i k (by omega) (by omega)
                  have b2 := (unhide HC (stp a S k i j)).b0 k j (by omega) (by omega)
                  have b3 := (unhide HC (stp a S k i j)).b0 i j (by omega) (by omega)
                  rw [stp_col] at b1
                  rw [stp_row] at b2
                  cases h1 : S i k
                  · rw [h1] at b1
                    have HN := hide (stp_no a S k i j (by simp [h1]))
                    go_wp2_with fail
                    go_roundw
                    case rel => exact ⟨j + 1, by omega, by go_num, by rw [unhide HN]⟩
                    case measure => simp [intOf]; omega
                  · rw [h1] at b1
                    cases h2 : S k j
                    · rw [h2] at b2
                      have HN := hide (stp_no a S k i j (by simp [h2]))
                      go_wp2_with fail
                      go_roundw
                      case rel => exact ⟨j + 1, by omega, by go_num, by rw [unhide HN]⟩
                      case measure => simp [intOf]; omega
                    · rw [h2] at b2
                      have hz := unhide HZ (stp a S k i j) (3 + i * 8 + j)
                      go_wp2_with fail
                      go_roundw
                      case rel => exact ⟨j + 1, by omega, by go_num, by rw [lat_set (unhide HG (stp a S k i j)) (by omega) (by omega) (fun x y _ _ => stp_set a S k i j hlj h1 h2 x y), setRow_setRow]⟩
                      case measure => simp [intOf]; omega
                · go_wp2_with fail
                  go_roundw
                  case rel => exact ⟨i + 1, by omega, by go_num, by rw [stp_next a S k i j (by omega)]⟩
                  case measure => simp [intOf]; omega
            · have ei : i = a := by omega
              subst ei
              go_wp2_with fail
              go_roundw
              case rel => exact ⟨k + 1, by omega, by go_num, by rw [unhide HK]⟩
              case measure => simp [intOf]; omega
        · have ek : k = a := by omega
          subst ek
          go_wp2_with fail
          go_end0
          exact ⟨rfl, rfl⟩

end Go.Proofs.Ytfcflnnleadpkab

namespace Go.Proofs.Ytfcflnnleadpkab
open Go.RowKit

set_option maxHeartbeats 400000 in
theorem isDigit_any (w : World) (c lim : Int) (h0 : 0 ≤ c) (h1 : c ≤ 255) :
    Calls Try.prog 74 #[.int .u8 c, .int .i64 lim] w fun e w' => e = .returned (.bool (isDB c lim)) ∧ w' = w := by
  by_cases a1 : 48 ≤ c
  · by_cases a2 : c ≤ 57
    · by_cases a3 : c - 48 < lim
      · have HF := hide (isDB_yes ⟨a1, a2, a3⟩)
        go_enter Try.func74, Try.ntmps74
        go_wp2_with fail
        go_ret
        exact ⟨by rw [unhide HF]; rfl, rfl⟩
      · have HF := hide (isDB_no (c := c) (lim := lim) (by omega))
        have a3' : decide (c - 48 < lim) = false := by simpa using a3
        go_enter Try.func74, Try.ntmps74
        go_wp2_with fail
        go_ret
        exact ⟨by rw [unhide HF]; rfl, rfl⟩
    · have HF := hide (isDB_no (c := c) (lim := lim) (by omega))
      have a2' : decide (c ≤ 57) = false := by simpa using a2
      go_enter Try.func74, Try.ntmps74
      go_wp2_with fail
      go_ret
      exact ⟨by rw [unhide HF]; rfl, rfl⟩
  · have HF := hide (isDB_no (c := c) (lim := lim) (by omega))
    have a1' : decide (48 ≤ c) = false := by simpa using a1
    go_enter Try.func74, Try.ntmps74
    go_wp2_with fail
    go_ret
    exact ⟨by rw [unhide HF]; rfl, rfl⟩

set_option maxHeartbeats 400000 in
theorem digitAt_any (w : World) (s : ByteArray) (k : Nat) (lim : Int) :
    Calls Try.prog 67 #[.string s, .int .i64 (k : Int), .int .i64 lim] w fun e w' => e = .returned (.tuple #[.int .i64 (digV s k lim), .bool (digB s k lim)]) ∧ w' = w := by
  have a0 : decide ((k : Int) < 0) = false := by simp
  by_cases hk : k < s.size
  · have hbq := bt_eq s k hk
    have ⟨hb0, hb1⟩ := bt_bd s k
    have HB := hide (digB_yes (lim := lim) hk)
    generalize hcc : bt s k = c at *
    have HCC := hide hcc
    clear hcc
    have a1 : decide ((s.size : Int) ≤ (k : Int)) = false := by simp; omega
    have hk' : (k : Int) < (s.size : Int) := by omega
    cases hd : isDB c lim
    · have HF := hide (show digV s k lim = 0 by unfold digV; rw [unhide HB, hd]; simp)
      go_enter Try.func67, Try.ntmps67
      go_wp2_with fail
      refine (isDigit_any _ _ _ hb0 hb1).mono ?_
      rintro e w' ⟨rfl, rfl⟩
      go_wp2_with fail
      go_ret2
      exact ⟨by rw [unhide HF, unhide HB, hd]; rfl, rfl⟩
    · have ⟨g1, g2, g3⟩ := (isDB_iff c lim).1 hd
      have HF := hide (show digV s k lim = c - 48 by unfold digV; rw [unhide HB, hd, unhide HCC]; simp)
      go_enter Try.func67, Try.ntmps67
      go_wp2_with fail
      refine (isDigit_any _ _ _ hb0 hb1).mono ?_
      rintro e w' ⟨rfl, rfl⟩
      go_wp2_with fail
      go_ret2
      exact ⟨by rw [unhide HF, unhide HB, hd]; rfl, rfl⟩
  · have HB := hide (digB_no (lim := lim) hk)
    have HF := hide (show digV s k lim = 0 by unfold digV; rw [unhide HB]; simp)
    have a1 : decide ((s.size : Int) ≤ (k : Int)) = true := by simp; omega
    go_enter Try.func67, Try.ntmps67
    go_wp2_with fail
    go_ret2
    exact ⟨by rw [unhide HF, unhide HB]; rfl, rfl⟩

theorem digitAt_int (w : World) (s : ByteArray) (a lim : Int) (k : Nat) (h : a = (k : Int)) :
    Calls Try.prog 67 #[.string s, .int .i64 a, .int .i64 lim] w fun e w' => e = .returned (.tuple #[.int .i64 (digV s k lim), .bool (digB s k lim)]) ∧ w' = w := by
  subst h; exact digitAt_any w s k lim

end Go.Proofs.Ytfcflnnleadpkab

namespace Go.Proofs.Ytfcflnnleadpkab
open Go.RowKit

theorem info_lat : (Try.prog.info? 58).map (fun i => (i.zero, i.size)) = some (some (.agg (latC 0 0 0 noT)), 132) := by kernel_rfl
theorem zero_lat : ∀ w, (zeroValue 58).run Try.prog w = .ok (.agg (latC 0 0 0 noT)) w := (zero_of_info info_lat).1
theorem size_lat : (Try.prog.info? 58).map (·.size) = some 132 := (zero_of_info info_lat).2

theorem store_arr {t : TypeId} {m : Nat} (hm : (Try.prog.info? t).map (·.size) = some m) (w : World) (g : Nat) (C C' : Array Value) (h1 : C.size = m) (h2 : C'.size = m) (ha : C'.all (·.oneCell') = true) (hg : w.heap[g]? = some (.cells C t (0, 0))) :
    Sem.run Try.prog (storeCells ⟨g, 0, none⟩ C'.toList) w = .ok () (w.setRow g C') := by
  have h := run_storeVar_row (P := Try.prog) w g t t _ C' hg (by rw [h2]; exact hm) (by rw [h1, h2]) ha
  cases hq : Try.prog.info? t with
  | none => simp [hq] at hm
  | some i =>
    have hs : i.size = m := by simpa [hq] using hm
    simpa [storeVar, sizeOf, typeInfo, hq, Value.cells, hs, h2] using h
theorem store_lat (w : World) (g : Nat) (e p n e' p' n' : Int) (R R' : Nat → Nat → Bool) (hg : w.heap[g]? = some (.cells (latC e p n R) 58 (0, 0))) :
    Sem.run Try.prog (storeCells ⟨g, 0, none⟩ (latC e' p' n' R').toList) w = .ok () (w.setRow g (latC e' p' n' R')) :=
  store_arr size_lat w g _ _ (latC_size _ _ _ _) (latC_size _ _ _ _) (latC_all _ _ _ _) hg
theorem store_latJ (w : World) (g : Nat) (e p n e' p' n' : Int) (R R' : Nat → Nat → Bool) (J : Nat → Nat → Int) (z : Int) (hg : w.heap[g]? = some (.cells (latC e p n R) 58 (0, 0))) :
    Sem.run Try.prog (storeCells ⟨g, 0, none⟩ (latJ e' p' n' R' J z).toList) w = .ok () (w.setRow g (latJ e' p' n' R' J z)) :=
  store_arr size_lat w g _ _ (latC_size _ _ _ _) (latJ_size _ _ _ _ _ _) (latJ_all _ _ _ _ _ _) hg
theorem ret_lat {fn : Func} {k : Tmp} (h : fn.results = #[.cell k 58]) (tmps : Array Value) (w : World) (g : Nat) (e p n : Int) (R : Nat → Nat → Bool)
    (hp : tmps.getD k undef = .pointer (some ⟨g, 0, none⟩)) (hg : w.heap[g]? = some (.cells (latC e p n R) 58 (0, 0))) :
    (results fn tmps).run Try.prog w = .ok (.agg (latC e p n R)) w :=
  results_cell_row h tmps w g _ _ _ _ hp hg Try.underlying58 rfl (by rw [latC_size]; exact size_lat)
theorem ret_latJ {fn : Func} {k : Tmp} (h : fn.results = #[.cell k 58]) (tmps : Array Value) (w : World) (g : Nat) (e p n : Int) (R : Nat → Nat → Bool) (J : Nat → Nat → Int) (z : Int)
    (hp : tmps.getD k undef = .pointer (some ⟨g, 0, none⟩)) (hg : w.heap[g]? = some (.cells (latJ e p n R J z) 58 (0, 0))) :
    (results fn tmps).run Try.prog w = .ok (.agg (latJ e p n R J z)) w :=
  results_cell_row h tmps w g _ _ _ _ hp hg Try.underlying58 rfl (by rw [latJ_size]; exact size_lat)

set_option maxHeartbeats 400000 in
set_option maxRecDepth 100000 in
theorem noOrder_any (w : World) (p : Int) :
    Calls Try.prog 68 #[.int .i64 p] w fun e w' => e = .returned (.agg (latC 2 p 0 noT)) ∧ Below w.heap.size w w' := by
  have hz := zero_lat
  have z0 := latC_size 0 0 0 noT
  have z1 := latC_size 2 0 0 noT
  have s0 := latC_set0 0 2 0 0 noT
  have s1 := latC_set1 2 0 p 0 noT
  have hst := store_lat (w.alloc (.cells (latC 0 0 0 noT) 58)) w.heap.size 0 0 0 2 p 0 noT noT (heap_alloc_last w _)
  rw [World.setRow_alloc_new] at hst
  go_enter Try.func68, Try.ntmps68
  go_wp2_with fail
  refine bodyPost_ret (v := .agg (latC 2 p 0 noT)) (ret_lat Try.results68 _ _ w.heap.size _ _ _ _ rfl (heap_alloc_last w _)) rfl ⟨rfl, ?_⟩
  exact (Below.refl _ _).alloc (Nat.le_refl _) _

end Go.Proofs.Ytfcflnnleadpkab

namespace Go.Proofs.Ytfcflnnleadpkab
open Go.RowKit

set_option maxHeartbeats 1000000 in
set_option maxRecDepth 100000 in
theorem readPairs_bad0 (w : World) (s : ByteArray) (h : ∀ n, ¬ FirstOk s n) :
    Calls Try.prog 39 #[.string s] w fun e w' => e = .returned (.agg (latC 2 0 0 noT)) ∧ Below w.heap.size w w' := by
  have hz := zero_lat
  have HB := hide (heap_alloc_last w (.cells (latC 0 0 0 noT) 58))
  cases hd : digB s 0 9
  · go_enter Try.func39, Try.ntmps39
    go_wp2_with fail
    refine (digitAt_int _ _ _ _ 0 rfl).mono ?_
    rintro e w' ⟨rfl, rfl⟩
    go_wp2_with fail
    refine (noOrder_any _ _).mono ?_
    rintro e w1 ⟨rfl, hb⟩
    have hg1 := (hb.block w.heap.size (by simp)).trans (unhide HB)
    have hst := store_lat w1 w.heap.size 0 0 0 2 0 0 noT noT hg1
    have HG := hide hg1
    clear hg1
    go_wp2_with fail
    refine bodyPost_ret (v := .agg (latC 2 0 0 noT)) (ret_lat Try.results39 _ _ w.heap.size _ _ _ _ rfl (setRow_heap _ _ _ _ _ _ (unhide HG))) rfl ⟨rfl, ?_⟩
    exact below_setRow (((Below.refl _ _).alloc (Nat.le_refl _) _).trans (hb.mono (by simp))) (Nat.le_refl _) _
  · have HD := hide hd
    have hd0 : digV s 0 9 = 0 := by
      have h1 := digV_bd (n := 9) hd
      obtain ⟨i, h1, h2, h3, h4⟩ := h1
      rcases Nat.eq_zero_or_pos i with e | e
      · have : digV s 0 ((9 : Nat) : Int) = digV s 0 9 := rfl
        rw [← this, h1, e]; rfl
      · exact absurd ⟨hd, h1, e, by omega⟩ (h i)
    have he : (digV s 0 9 == 0) = true := by rw [hd0]; rfl
    clear hd0
    go_enter Try.func39, Try.ntmps39
    go_wp2_with fail
    refine (digitAt_int _ _ _ _ 0 rfl).mono ?_
    rintro e w' ⟨rfl, rfl⟩
    go_wp2_with fail
    refine (noOrder_any _ _).mono ?_
    rintro e w1 ⟨rfl, hb⟩
    have hg1 := (hb.block w.heap.size (by simp)).trans (unhide HB)
    have hst := store_lat w1 w.heap.size 0 0 0 2 0 0 noT noT hg1
    have HG := hide hg1
    clear hg1
    go_wp2_with fail
    refine bodyPost_ret (v := .agg (latC 2 0 0 noT)) (ret_lat Try.results39 _ _ w.heap.size _ _ _ _ rfl (setRow_heap _ _ _ _ _ _ (unhide HG))) rfl ⟨rfl, ?_⟩
    exact below_setRow (((Below.refl _ _).alloc (Nat.le_refl _) _).trans (hb.mono (by simp))) (Nat.le_refl _) _

/-- What reading the pairs comes to. -/
def PairsPost (s : ByteArray) (n : Nat) (e : Ending) : Prop :=
  (∃ k : Nat, BadAt s k ∧ e = .returned (.agg (latC 2 k 0 noT))) ∨ (GoodOrd s n ∧ e = .returned (.agg (latC 0 0 n (pairsTo s n (s.size / 2)))))

set_option maxHeartbeats 2000000 in
set_option maxRecDepth 100000 in
theorem readPairs_ok (w : World) (s : ByteArray) (n : Nat) (h : FirstOk s n) (hsz : s.size ≤ 65) :
    Calls Try.prog 39 #[.string s] w fun e w' => PairsPost s n e ∧ Below w.heap.size w w' := by
  have hz := zero_lat
  have HO := hide h
  obtain ⟨hd, hv, h1, h8⟩ := h
  have hv9 : digV s 0 9 = (n : Int) := hv
  have hn0 : (((n : Int)) == 0) = false := by simp; omega
  have z0 := latC_size 0 0 0 noT
  have z1 := latC_size 0 0 n noT
  have s0 := latC_set2 0 0 0 n noT
  have hst := store_lat ((w.alloc (.cells (latC 0 0 0 noT) 58)).alloc (.cells (latC 0 0 0 noT) 58)) (w.heap.size + 1) 0 0 0 0 0 n noT noT (by have := heap_alloc_last (w.alloc (.cells (latC 0 0 0 noT) 58)) (.cells (latC 0 0 0 noT) 58); simpa using this)
  rw [show w.heap.size + 1 = (w.alloc (.cells (latC 0 0 0 noT) 58)).heap.size by simp, World.setRow_alloc_new] at hst
  rw [show (w.alloc (.cells (latC 0 0 0 noT) 58)).heap.size = w.heap.size + 1 by simp] at hst
  have HS1 : Hid (1 ≤ s.size) := by
    obtain ⟨i, g1, g2, g3, g4⟩ := digV_bd (n := 9) hd
    exact hide g4
  go_enter Try.func39, Try.ntmps39
  go_wp2_with fail
  refine (digitAt_int _ _ _ _ 0 rfl).mono ?_
  rintro e w' ⟨rfl, rfl⟩
  go_wp2_with fail
  clear hst s0 z1 hv9 hv hd hn0
  go_loopw [6] (fun d wr => ∃ k m : Nat, k = 2 * m + 1 ∧ k ≤ s.size ∧ (∀ i, 1 ≤ i → i < k → digB s i n = true) ∧ d = .int .i64 (k : Int) ∧ wr = (w.alloc (.cells (latC 0 0 0 noT) 58)).alloc (.cells (latC 0 0 n (pairsTo s n m)) 58)) (fun d _ => s.size - (intOf d).toNat)
  case atStart => exact ⟨1, 0, rfl, unhide HS1, fun i h1 h2 => by omega, rfl, rfl⟩
  case round =>
    obtain ⟨k, m, hkm, hks, hall, rfl, rfl⟩ := hrel
    have HK := hide hkm
    have HA := hide hall
    clear hkm hall
    by_cases hlt : k < s.size
    · have hlt' : (k : Int) < (s.size : Int) := by omega
      cases hd1 : digB s k n
      · have HBad : Hid (BadAt s k) := Or.inr ⟨n, unhide HO, by have := unhide HK; omega, by omega, unhide HA, hd1, fun e => absurd e (by omega)⟩
        have HB := hide (heap_alloc_last w (.cells (latC 0 0 0 noT) 58))
        go_wp2_with fail
        refine (digitAt_int _ _ _ _ k rfl).mono ?_
        rintro e w' ⟨rfl, rfl⟩
        go_wp2_with fail
        refine (noOrder_any _ _).mono ?_
        rintro e w1 ⟨rfl, hb⟩
        have hg1 := (hb.block w.heap.size (by simp <;> omega)).trans ((heap_alloc_old _ _ (by simp)).trans (unhide HB))
        have hst := store_lat w1 w.heap.size 0 0 0 2 k 0 noT noT hg1
        have HG := hide hg1
        clear hg1
        go_wp2_with fail
        refine bodyPost_ret (v := .agg (latC 2 k 0 noT)) (ret_lat Try.results39 _ _ w.heap.size _ _ _ _ rfl (setRow_heap _ _ _ _ _ _ (unhide HG))) rfl ⟨Or.inl ⟨k, unhide HBad, rfl⟩, ?_⟩
        exact below_setRow ((((Below.refl _ _).alloc (Nat.le_refl _) _).alloc (by simp) _).trans (hb.mono (by simp <;> omega))) (Nat.le_refl _) _
      · cases hd2 : digB s (k + 1) n
        · have HBad : Hid (BadAt s (k + 1)) := Or.inr ⟨n, unhide HO, by omega, by omega, fun i h1 h2 => by
            by_cases e : i = k
            · rw [e]; exact hd1
            · exact unhide HA i h1 (by omega), hd2, fun e => by have := unhide HK; omega⟩
          have HB := hide (heap_alloc_last w (.cells (latC 0 0 0 noT) 58))
          go_wp2_with fail
          refine (digitAt_int _ _ _ _ k rfl).mono ?_
          rintro e w' ⟨rfl, rfl⟩
          go_wp2_with fail
          refine (digitAt_int _ _ _ _ (k + 1) (by omega)).mono ?_
          rintro e w' ⟨rfl, rfl⟩
          go_wp2_with fail
          refine (noOrder_any _ _).mono ?_
          rintro e w1 ⟨rfl, hb⟩
          have hg1 := (hb.block w.heap.size (by simp <;> omega)).trans ((heap_alloc_old _ _ (by simp)).trans (unhide HB))
          have hst := store_lat w1 w.heap.size 0 0 0 2 ((k : Int) + 1) 0 noT noT hg1
          have HG := hide hg1
          clear hg1
          go_wp2_with fail
          refine bodyPost_ret (v := .agg (latC 2 ((k : Int) + 1) 0 noT)) (ret_lat Try.results39 _ _ w.heap.size _ _ _ _ rfl (setRow_heap _ _ _ _ _ _ (unhide HG))) rfl ⟨Or.inl ⟨k + 1, unhide HBad, by rw [show ((k + 1 : Nat) : Int) = (k : Int) + 1 by omega]⟩, ?_⟩
          exact below_setRow ((((Below.refl _ _).alloc (Nat.le_refl _) _).alloc (by simp) _).trans (hb.mono (by simp <;> omega))) (Nat.le_refl _) _
        · obtain ⟨i, hv1, hi, -, -⟩ := digV_bd hd1
          obtain ⟨j, hv2, hj, -, hk1⟩ := digV_bd hd2
          have hi' : (i : Int) < 8 := by omega
          have hj' : (j : Int) < 8 := by omega
          have HP : Hid (latC 0 0 n (updV (pairsTo s n m) i j true) = latC 0 0 n (pairsTo s n (m + 1))) := by
            have e1 : pairsTo s n (m + 1) = updV (pairsTo s n m) i j true := by
              have e2 := unhide HK
              show updV (pairsTo s n m) (digV s (2 * m + 1) n).toNat (digV s (2 * m + 2) n).toNat true = _
              rw [show 2 * m + 1 = k by omega, show 2 * m + 2 = k + 1 by omega, hv1, hv2]
              rfl
            exact hide (by rw [e1])
          have hc := latC_ij 0 0 n (pairsTo s n m) i j (by omega) (by omega)
          have hset := latC_set 0 0 n (pairsTo s n m) i j true (by omega) (by omega)
          have hz1 := latC_size 0 0 n (pairsTo s n m)
          go_wp2_with fail
          refine (digitAt_int _ _ _ _ k rfl).mono ?_
          rintro e w' ⟨rfl, rfl⟩
          go_wp2_with fail
          refine (digitAt_int _ _ _ _ (k + 1) (by omega)).mono ?_
          rintro e w' ⟨rfl, rfl⟩
          go_wp2_with fail
          go_roundw
          case rel => exact ⟨k + 2, m + 1, by have := unhide HK; omega, by omega, fun x h1 h2 => by
            by_cases e : x = k
            · rw [e]; exact hd1
            · by_cases e' : x = k + 1
              · rw [e']; exact hd2
              · exact unhide HA x h1 (by omega), by go_num, by rw [unhide HP]⟩
          case measure => simp [intOf]; omega
    · have hks' : k = s.size := by omega
      have HGood : Hid (GoodOrd s n) := ⟨unhide HO, by have := unhide HK; omega, fun i h1 h2 => unhide HA i h1 (by omega)⟩
      have HM : Hid (m = s.size / 2) := by have := unhide HK; exact hide (by omega)
      have g0 : ((w.alloc (.cells (latC 0 0 0 noT) 58)).alloc (.cells (latC 0 0 n (pairsTo s n m)) 58)).heap[w.heap.size]? = some (.cells (latC 0 0 0 noT) 58) :=
        (heap_alloc_old _ _ (by simp)).trans (heap_alloc_last w _)
      have g1 : ((w.alloc (.cells (latC 0 0 0 noT) 58)).alloc (.cells (latC 0 0 n (pairsTo s n m)) 58)).heap[w.heap.size + 1]? = some (.cells (latC 0 0 n (pairsTo s n m)) 58) := by
        have := heap_alloc_last (w.alloc (.cells (latC 0 0 0 noT) 58)) (.cells (latC 0 0 n (pairsTo s n m)) 58); simpa using this
      clear hks'
      have hst := store_lat _ _ 0 0 0 0 0 n noT (pairsTo s n m) g0
      have HG := hide g0
      have HG1 := hide g1
      clear g0 g1
      go_wp2_with (refine wpList_load_row rfl 58 _ rfl (w.heap.size + 1) rfl 58 _ (0, 0) _ (unhide HG1) Try.underlying58 rfl (by rw [latC_size]; exact size_lat) ?_)
      refine bodyPost_ret (v := .agg (latC 0 0 n (pairsTo s n m))) (ret_lat Try.results39 _ _ w.heap.size _ _ _ _ rfl (setRow_heap _ _ _ _ _ _ (unhide HG))) rfl ⟨Or.inr ⟨unhide HGood, by rw [← unhide HM]⟩, ?_⟩
      exact below_setRow (((Below.refl _ _).alloc (Nat.le_refl _) _).alloc (by simp) _) (Nat.le_refl _) _

end Go.Proofs.Ytfcflnnleadpkab

namespace Go.Proofs.Ytfcflnnleadpkab
open Go.RowKit

/-- What 'turned' has behind a rounds, and b of the next. -/
def trn (n : Nat) (R : Nat → Nat → Bool) (a b : Nat) : Nat → Nat → Bool := fun i j => if j < a ∨ (j = a ∧ i < b) then (if i < n then R j i else false) else false

theorem trn_zero (n : Nat) (R : Nat → Nat → Bool) : trn n R 0 0 = noT := by
  funext i j; unfold trn noT; rw [if_neg (by omega)]
theorem trn_step (n : Nat) (R : Nat → Nat → Bool) (a b : Nat) (hb : b < n) (x y : Nat) : updV (trn n R a b) b a (R a b) x y = trn n R a (b + 1) x y := by
  unfold updV trn
  by_cases e1 : x = b
  · by_cases e2 : y = a
    · subst e1; subst e2
      rw [if_pos (by simp), if_pos (by omega), if_pos hb]
    · have h : (x == b && y == a) = false := by simp [e2]
      rw [h]
      by_cases c : y < a ∨ (y = a ∧ x < b)
      · rw [if_pos c, if_pos (show y < a ∨ (y = a ∧ x < b + 1) by omega)]; rfl
      · rw [if_neg c, if_neg (show ¬ (y < a ∨ (y = a ∧ x < b + 1)) by omega)]; rfl
  · have h : (x == b && y == a) = false := by simp [e1]
    rw [h]
    by_cases c : y < a ∨ (y = a ∧ x < b)
    · rw [if_pos c, if_pos (show y < a ∨ (y = a ∧ x < b + 1) by omega)]; rfl
    · rw [if_neg c, if_neg (show ¬ (y < a ∨ (y = a ∧ x < b + 1)) by omega)]; rfl
theorem trn_next (n : Nat) (R : Nat → Nat → Bool) (a b : Nat) (hb : n ≤ b) : trn n R (a + 1) 0 = trn n R a b := by
  funext x y
  unfold trn
  by_cases hx : x < n
  · by_cases c : y < a ∨ (y = a ∧ x < b)
    · rw [if_pos c, if_pos (show y < a + 1 ∨ (y = a + 1 ∧ x < 0) by omega)]
    · rw [if_neg c, if_neg (show ¬ (y < a + 1 ∨ (y = a + 1 ∧ x < 0)) by omega)]
  · rw [if_neg hx]; split <;> split <;> rfl

theorem below_drewN' {B : Nat} {a w : World} (h : Below B a w) (q : Nat) : Below B a (w.drewN q) := ⟨h.os, h.tape, h.output, h.size, h.block⟩
theorem set_top {w : World} {A : Obj} {C C' : Array Value} {T : TypeId} {q off : Nat} {v : Value} (hC : C.setIfInBounds off v = C') :
    (((w.alloc A).alloc (.cells C T)).drewN q).setCell ⟨w.heap.size + 1, off, none⟩ v = ((w.alloc A).alloc (.cells C' T)).drewN q := by
  have h1 : ((w.alloc A).alloc (.cells C T)).heap[w.heap.size + 1]? = some (.cells C T (0, 0)) := by
    have := heap_alloc_last (w.alloc A) (.cells C T); simpa using this
  have h2 : (((w.alloc A).alloc (.cells C T)).drewN q).setCell ⟨w.heap.size + 1, off, none⟩ v = (((w.alloc A).alloc (.cells C T)).setCell ⟨w.heap.size + 1, off, none⟩ v).drewN q := rfl
  rw [h2, setCell_eq_setRow _ _ _ _ _ _ _ h1, hC]
  have h3 : w.heap.size + 1 = (w.alloc A).heap.size := by simp
  rw [h3, World.setRow_alloc_new]

set_option maxHeartbeats 2000000 in
set_option maxRecDepth 100000 in
theorem turned_any (w : World) (b n : Nat) (R : Nat → Nat → Bool) (hn : n ≤ 8) (hl : LatM w b 0 n R) :
    Calls Try.prog 71 #[.pointer (some ⟨b, 0, none⟩)] w fun e w' => e = .returned (.agg (latC 0 0 n (trn n R n 0))) ∧ Below w.heap.size w w' := by
  have hz := zero_lat
  have hc := hl.c0
  have hbz : b < w.heap.size := by
    have := block_lt_of_cell hc
    exact this
  have z0 := latC_size 0 0 0 noT
  have z1 := latC_size 0 0 n noT
  have s0 := latC_set2 0 0 0 n noT
  have hst := store_lat ((w.alloc (.cells (latC 0 0 0 noT) 58)).alloc (.cells (latC 0 0 0 noT) 58)) (w.heap.size + 1) 0 0 0 0 0 n noT noT (by have := heap_alloc_last (w.alloc (.cells (latC 0 0 0 noT) 58)) (.cells (latC 0 0 0 noT) 58); simpa using this)
  rw [show w.heap.size + 1 = (w.alloc (.cells (latC 0 0 0 noT) 58)).heap.size by simp, World.setRow_alloc_new] at hst
  rw [show (w.alloc (.cells (latC 0 0 0 noT) 58)).heap.size = w.heap.size + 1 by simp] at hst
  go_enter Try.func71, Try.ntmps71
  go_wp2_with fail
  clear hst s0 z1 hc
  have HL := hide hl
  clear hl
  have HS0 := hide (show (w.alloc (.cells (latC 0 0 0 noT) 58)).alloc (.cells (latC 0 0 n noT) 58) = ((w.alloc (.cells (latC 0 0 0 noT) 58)).alloc (.cells (latC 0 0 n (trn n R 0 0)) 58)).drewN 0 by rw [trn_zero]; rfl)
  go_loopw [4] (fun d wr => ∃ a q : Nat, a ≤ n ∧ d = .int .i64 (a : Int) ∧ wr = ((w.alloc (.cells (latC 0 0 0 noT) 58)).alloc (.cells (latC 0 0 n (trn n R a 0)) 58)).drewN q) (fun d _ => n - (intOf d).toNat)
  case atStart => exact ⟨0, 0, Nat.zero_le _, rfl, unhide HS0⟩
  case round =>
    obtain ⟨a, q, ha, rfl, rfl⟩ := hrel
    have hc := (unhide HL).c0
    by_cases hlt : a < n
    · have ha' : (a : Int) < 8 := by omega
      go_wp2_with fail
      go_loopw [5] (fun d wr => ∃ m q : Nat, m ≤ n ∧ d = .int .i64 (m : Int) ∧ wr = ((w.alloc (.cells (latC 0 0 0 noT) 58)).alloc (.cells (latC 0 0 n (trn n R a m)) 58)).drewN q) (fun d _ => n - (intOf d).toNat)
      case atStart => exact ⟨0, q, Nat.zero_le _, rfl, rfl⟩
      case round =>
        obtain ⟨m, q, hm, rfl, rfl⟩ := hrel
        by_cases hlm : m < n
        · have hm' : (m : Int) < 8 := by omega
          have hb1 := (unhide HL).b0 a m (by omega) (by omega)
          have hcc := latC_ij 0 0 n (trn n R a m) m a (by omega) (by omega)
          have hset := latC_set 0 0 n (trn n R a m) m a (R a m) (by omega) (by omega)
          have hz1 := latC_size 0 0 n (trn n R a m)
          go_wp2_with fail
          go_region
          go_wp2_with fail
          go_roundw
          case rel => exact ⟨m + 1, q + 1, by omega, by go_num, by rw [set_top (hC := hset), latC_congr 0 0 n _ _ (fun x y _ _ => trn_step n R a m hlm x y)]⟩
          case measure => simp [intOf]; omega
        · go_wp2_with fail
          go_roundw
          case rel => exact ⟨a + 1, q, by omega, by go_num, by rw [trn_next n R a m (by omega)]⟩
          case measure => simp [intOf]; omega
    · have ea : a = n := by omega
      subst ea
      have g0 : (((w.alloc (.cells (latC 0 0 0 noT) 58)).alloc (.cells (latC 0 0 a (trn a R a 0)) 58)).drewN q).heap[w.heap.size]? = some (.cells (latC 0 0 0 noT) 58) :=
        (heap_alloc_old _ _ (by simp)).trans (heap_alloc_last w _)
      have g1 : (((w.alloc (.cells (latC 0 0 0 noT) 58)).alloc (.cells (latC 0 0 a (trn a R a 0)) 58)).drewN q).heap[w.heap.size + 1]? = some (.cells (latC 0 0 a (trn a R a 0)) 58) := by
        have := heap_alloc_last (w.alloc (.cells (latC 0 0 0 noT) 58)) (.cells (latC 0 0 a (trn a R a 0)) 58); simpa using this
      have hst := store_lat _ _ 0 0 0 0 0 a noT (trn a R a 0) g0
      have HG := hide g0
      have HG1 := hide g1
      clear g0 g1
      go_wp2_with (refine wpList_load_row rfl 58 _ rfl (w.heap.size + 1) rfl 58 _ (0, 0) _ (unhide HG1) Try.underlying58 rfl (by rw [latC_size]; exact size_lat) ?_)
      refine bodyPost_ret (v := .agg (latC 0 0 a (trn a R a 0))) (ret_lat Try.results71 _ _ w.heap.size _ _ _ _ rfl (setRow_heap _ _ _ _ _ _ (unhide HG))) rfl ⟨rfl, ?_⟩
      exact below_setRow (below_drewN' (((Below.refl _ _).alloc (Nat.le_refl _) _).alloc (by simp) _) _) (Nat.le_refl _) _

end Go.Proofs.Ytfcflnnleadpkab

namespace Go.Proofs.Ytfcflnnleadpkab
open Go.RowKit

theorem hasJ_congr {n : Nat} {R S : Nat → Nat → Bool} (h : Hm.Same n R S) : Hm.hasJ R n = Hm.hasJ S n := by
  rw [Bool.eq_iff_iff, Hm.hasJ_iff, Hm.hasJ_iff]
  constructor
  · intro k a b ha hb
    obtain ⟨c, h1, h2⟩ := k a b ha hb
    exact ⟨c, h1, by rw [← Hm.lub_congr h ha (by omega) h1]; exact h2⟩
  · intro k a b ha hb
    obtain ⟨c, h1, h2⟩ := k a b ha hb
    exact ⟨c, h1, by rw [Hm.lub_congr h ha (by omega) h1]; exact h2⟩
theorem trn_flip (n : Nat) (R : Nat → Nat → Bool) : Hm.Same n (trn n R n 0) (Hm.flip R) := by
  intro i j hi hj
  unfold trn Hm.flip
  rw [if_pos (Or.inl hj), if_pos hi]
set_option maxHeartbeats 1000000 in
set_option maxRecDepth 100000 in
theorem wellOrdered_any (w : World) (b n : Nat) (R : Nat → Nat → Bool) (hn : n ≤ 8) (hl : LatM w b 0 n R) :
    Calls Try.prog 41 #[.pointer (some ⟨b, 0, none⟩)] w fun e w' => e = .returned (.bool (Hm.wellC R n)) ∧ Below w.heap.size w w' := by
  have hz := zero_lat
  cases h1 : Hm.circ R n
  · cases h2 : Hm.hasJ R n
    · have HF := hide (show Hm.wellC R n = false by unfold Hm.wellC; rw [h1, h2]; rfl)
      go_enter Try.func41, Try.ntmps41
      go_wp2_with fail
      refine (hasCircle_any _ _ _ _ _ hn hl).mono ?_
      rintro e w' ⟨rfl, rfl⟩
      go_wp2_with fail
      refine (hasJoins_any _ _ _ _ _ hn hl).mono ?_
      rintro e w' ⟨rfl, rfl⟩
      go_wp2_with fail
      go_ret
      exact ⟨by rw [unhide HF]; rfl, Below.refl _ _⟩
    · have HF := hide (show Hm.wellC R n = Hm.hasJ (trn n R n 0) n by unfold Hm.wellC; rw [h1, h2, hasJ_congr (trn_flip n R)]; rfl)
      go_enter Try.func41, Try.ntmps41
      go_wp2_with fail
      refine (hasCircle_any _ _ _ _ _ hn hl).mono ?_
      rintro e w' ⟨rfl, rfl⟩
      go_wp2_with fail
      refine (hasJoins_any _ _ _ _ _ hn hl).mono ?_
      rintro e w' ⟨rfl, rfl⟩
      go_wp2_with fail
      refine (turned_any _ _ _ _ hn hl).mono ?_
      rintro e w1 ⟨rfl, hb⟩
      have hst := store_lat (w1.alloc (.cells (latC 0 0 0 noT) 58)) w1.heap.size 0 0 0 0 0 n noT (trn n R n 0) (heap_alloc_last w1 _)
      rw [World.setRow_alloc_new] at hst
      have z1 := latC_size 0 0 n (trn n R n 0)
      have z0 := latC_size 0 0 0 noT
      go_wp2_with fail
      refine (hasJoins_any _ _ _ _ _ hn (latC_lat (heap_alloc_last w1 _))).mono ?_
      rintro e w2 ⟨rfl, rfl⟩
      go_wp2_with fail
      go_ret
      exact ⟨by rw [unhide HF]; rfl, hb.trans ((Below.refl _ _).alloc hb.size _)⟩
  · have HF := hide (show Hm.wellC R n = false by unfold Hm.wellC; rw [h1]; rfl)
    go_enter Try.func41, Try.ntmps41
    go_wp2_with fail
    refine (hasCircle_any _ _ _ _ _ hn hl).mono ?_
    rintro e w' ⟨rfl, rfl⟩
    go_wp2_with fail
    go_ret
    exact ⟨by rw [unhide HF]; rfl, Below.refl _ _⟩


end Go.Proofs.Ytfcflnnleadpkab

namespace Go.Proofs.Ytfcflnnleadpkab
open Go.RowKit

/-- The joins that are kept behind a rows, and b of the next. -/
def jTo (n : Nat) (R : Nat → Nat → Bool) (a b : Nat) : Nat → Nat → Int := fun i j => if i < n ∧ j < n ∧ (i < a ∨ (i = a ∧ j < b)) then Hm.joinI R n i j else 0
theorem jTo_zero (n : Nat) (R : Nat → Nat → Bool) : jTo n R 0 0 = noJ := by
  funext i j; unfold jTo noJ; rw [if_neg (by omega)]
theorem jTo_step (n : Nat) (R : Nat → Nat → Bool) (a b : Nat) (ha : a < n) (hb : b < n) (x y : Nat) : updJ (jTo n R a b) a b (Hm.joinI R n a b) x y = jTo n R a (b + 1) x y := by
  unfold updJ jTo
  by_cases e : x = a ∧ y = b
  · obtain ⟨rfl, rfl⟩ := e
    rw [if_pos (by simp), if_pos ⟨ha, hb, by omega⟩]
  · have h : (x == a && y == b) = false := by
      cases h : (x == a && y == b) with
      | false => rfl
      | true => simp at h; exact absurd h e
    simp only [h, Bool.false_eq_true, if_false]
    by_cases c : x < n ∧ y < n ∧ (x < a ∨ (x = a ∧ y < b))
    · rw [if_pos c, if_pos (by omega)]
    · rw [if_neg c, if_neg (by omega)]
theorem jTo_next (n : Nat) (R : Nat → Nat → Bool) (a b : Nat) (hb : n ≤ b) : jTo n R (a + 1) 0 = jTo n R a b := by
  funext x y
  unfold jTo
  by_cases c : x < n ∧ y < n ∧ (x < a ∨ (x = a ∧ y < b))
  · rw [if_pos c, if_pos (by omega)]
  · rw [if_neg c, if_neg (by omega)]
theorem jTo_all (n : Nat) (R : Nat → Nat → Bool) (i j : Nat) (hi : i < n) (hj : j < n) : jTo n R n 0 i j = Hm.joinI R n i j := by
  unfold jTo; rw [if_pos ⟨hi, hj, by omega⟩]
theorem lat_setJ {w : World} {b : Nat} {n e p z : Int} {R : Nat → Nat → Bool} {J K : Nat → Nat → Int} {t : TypeId} {fr : Nat × Nat} (h : w.heap[b]? = some (.cells (latJ e p n R J z) t fr)) {i j : Nat} {v : Int} (hi : i < 8) (hj : j < 8)
    (hS : ∀ x y, updJ J i j v x y = K x y) : w.setCell ⟨b, 67 + i * 8 + j, none⟩ (.int .i64 v) = w.setRow b (latJ e p n R K z) := by
  rw [setCell_eq_setRow w b _ _ t fr _ h, latJ_set _ _ _ _ _ _ _ _ _ hi hj, latJ_congr _ _ _ R R _ K _ (fun _ _ _ _ => rfl) (fun x y _ _ => hS x y)]

theorem LatM.drewN {w : World} {b o n : Nat} {R : Nat → Nat → Bool} (h : LatM w b o n R) (q : Nat) : LatM (w.drewN q) b o n R := ⟨h.cnt, h.bel⟩
theorem LatM.drew {w : World} {b o n : Nat} {R : Nat → Nat → Bool} (h : LatM w b o n R) : LatM w.drew b o n R := ⟨h.cnt, h.bel⟩

set_option maxHeartbeats 1000000 in
set_option maxRecDepth 100000 in
theorem keepJoins_any (w : World) (b n : Nat) (R : Nat → Nat → Bool) (t : TypeId) (hn : n ≤ 8) (hg : w.heap[b]? = some (.cells (latC 0 0 n R) t (0, 0))) :
    Calls Try.prog 42 #[.pointer (some ⟨b, 0, none⟩)] w fun e w' => e = .returned (.tuple #[]) ∧ ∃ q : Nat, w' = (w.setRow b (latJ 0 0 n R (jTo n R n 0) 0)).drewN q := by
  have HG := hide (fun S : Nat → Nat → Int => setRow_heap w b _ (latJ 0 0 n R S 0) t (0, 0) hg)
  have HC := hide (fun S : Nat → Nat → Int => latJ_lat (setRow_heap w b _ (latJ 0 0 n R S 0) t (0, 0) hg))
  have HZ := hide (fun (S : Nat → Nat → Int) j => frozen_of_row (w.setRow b (latJ 0 0 n R S 0)) b j _ t (setRow_heap w b _ _ t (0, 0) hg))
  have HK := hide (fun (S : Nat → Nat → Int) (i j : Nat) (hi : i < 8) (hj : j < 8) => (rowF_cell (setRow_heap w b _ (latJ 0 0 n R S 0) t (0, 0) hg) (show 67 + i * 8 + j < 132 by omega)).trans (congrArg some (latF_jj 0 0 n R S 0 i j hi hj)))
  have HS := hide (show w = (w.setRow b (latJ 0 0 n R (jTo n R 0 0) 0)).drewN 0 by
    rw [jTo_zero, ← latC_J, setRow_self w b _ t (0, 0) hg]; rfl)
  clear hg
  go_enter Try.func42, Try.ntmps42
  go_wp2_with fail
  go_loopw [2] (fun d wr => ∃ a q : Nat, a ≤ n ∧ d = .int .i64 (a : Int) ∧ wr = (w.setRow b (latJ 0 0 n R (jTo n R a 0) 0)).drewN q) (fun d _ => n - (intOf d).toNat)
  case atStart => exact ⟨0, 0, Nat.zero_le _, rfl, unhide HS⟩
  case round =>
    obtain ⟨a, q, ha, rfl, rfl⟩ := hrel
    have hc := (unhide HC (jTo n R a 0)).c0
    by_cases hlt : a < n
    · have ha' : (a : Int) < 8 := by omega
      go_wp2_with fail
      clear hc
      go_loopw [3] (fun d wr => ∃ m q : Nat, m ≤ n ∧ d = .int .i64 (m : Int) ∧ wr = (w.setRow b (latJ 0 0 n R (jTo n R a m) 0)).drewN q) (fun d _ => n - (intOf d).toNat)
      case atStart => exact ⟨0, q, Nat.zero_le _, rfl, rfl⟩
      case round =>
        obtain ⟨m, q, hm, rfl, rfl⟩ := hrel
        have hc := (unhide HC (jTo n R a m)).c0
        by_cases hlm : m < n
        · have hm' : (m : Int) < 8 := by omega
          have hb := unhide HK (jTo n R a m) a m (by omega) (by omega)
          have hz := unhide HZ (jTo n R a m) (67 + a * 8 + m)
          go_wp2_with fail
          go_region_with (go_at_call 72; refine (findJoin_any _ _ 0 _ _ _ _ hn (((unhide HC (jTo n R a m)).drewN q).drew) hlt hlm).mono ?_; rintro e w' ⟨rfl, rfl⟩)
          all_goals
            go_wp2_with fail
            go_roundw
            case rel => exact ⟨m + 1, q + 1, by omega, by go_num, by
              rw [show ((w.setRow b (latJ 0 0 n R (jTo n R a m) 0)).drewN (q + 1)).setCell ⟨b, 67 + a * 8 + m, none⟩ (.int .i64 (Hm.joinI R n a m)) = ((w.setRow b (latJ 0 0 n R (jTo n R a m) 0)).setCell ⟨b, 67 + a * 8 + m, none⟩ (.int .i64 (Hm.joinI R n a m))).drewN (q + 1) from rfl,
                lat_setJ (unhide HG (jTo n R a m)) (by omega) (by omega) (fun x y => jTo_step n R a m hlt hlm x y), setRow_setRow]⟩
            case measure => simp [intOf]; omega
        · go_wp2_with fail
          go_roundw
          case rel => exact ⟨a + 1, q, by omega, by go_num, by rw [jTo_next n R a m (by omega)]⟩
          case measure => simp [intOf]; omega
    · have ea : a = n := by omega
      subst ea
      go_wp2_with fail
      go_end0
      exact ⟨rfl, q, rfl⟩

/-- The bottom that is found among the levels up to k. -/
def fbK (R : Nat → Nat → Bool) : Nat → Nat
  | 0 => 0
  | k + 1 => if R (k + 1) (fbK R k) = true then k + 1 else fbK R k
theorem fbK_le (R : Nat → Nat → Bool) : ∀ k, fbK R k ≤ k := by
  intro k
  induction k with
  | zero => exact Nat.le_refl _
  | succ k ih => simp only [fbK]; split <;> omega

set_option maxHeartbeats 1000000 in
set_option maxRecDepth 100000 in
theorem findBottom_any (w : World) (b n : Nat) (R : Nat → Nat → Bool) (h1 : 1 ≤ n) (hn : n ≤ 8) (hl : LatM w b 0 n R) :
    Calls Try.prog 43 #[.pointer (some ⟨b, 0, none⟩)] w fun e w' => e = .returned (.int .i64 (fbK R (n - 1) : Nat)) ∧ w' = w := by
  have hc := hl.c0
  go_enter Try.func43, Try.ntmps43
  go_wp2_with fail
  go_loop [3, 4] (fun d e => ∃ m : Nat, m + 1 ≤ n ∧ e = .int .i64 ((m : Int) + 1) ∧ d = .int .i64 (fbK R m : Nat)) (fun _ e => n - (intOf e).toNat)
  case atStart => exact ⟨0, h1, rfl, rfl⟩
  case round =>
    obtain ⟨m, hm, rfl, rfl⟩ := hrel
    have HL := hide (fbK_le R m)
    have HY := hide (fun h : R (m + 1) (fbK R m) = true => show fbK R (m + 1) = m + 1 by simp only [fbK]; rw [if_pos h])
    have HN := hide (fun h : R (m + 1) (fbK R m) = false => show fbK R (m + 1) = fbK R m by simp only [fbK]; rw [if_neg (by simp [h])])
    generalize hq0 : fbK R m = q at *
    have HQ := hide hq0.symm
    clear hq0
    by_cases hlt : m + 1 < n
    · have hq : q < n := by have := unhide HL; omega
      cases hr : R (m + 1) q
      · go_wp2_with fail
        refine (isBelow_any _ _ _ _ (m + 1) _ _ hn hl hlt hq).mono ?_
        rintro e w' ⟨rfl, rfl⟩
        rw [hr]
        go_wp2_with fail
        go_round
        case rel => exact ⟨m + 1, by omega, by go_num, by rw [unhide HN hr]⟩
        case measure => simp [intOf]; omega
      · go_wp2_with fail
        refine (isBelow_any _ _ _ _ (m + 1) _ _ hn hl hlt hq).mono ?_
        rintro e w' ⟨rfl, rfl⟩
        rw [hr]
        go_wp2_with fail
        go_round
        case rel => exact ⟨m + 1, by omega, by go_num, by rw [unhide HY hr]; rfl⟩
        case measure => simp [intOf]; omega
    · have em : m = n - 1 := by omega
      go_wp2_with fail
      go_ret
      exact ⟨by rw [← em]; exact congrArg (fun x : Nat => Ending.returned (.int .i64 (x : Int))) (unhide HQ), rfl⟩

set_option maxHeartbeats 400000 in
set_option maxRecDepth 100000 in
theorem join_any (w : World) (b o n i j : Nat) (R : Nat → Nat → Bool) (x : Int) (hn : n ≤ 8) (hl : LatM w b o n R) (hx : w.cell? ⟨b, o + 67 + i * 8 + j, none⟩ = some (.int .i64 x)) (hi : i < n) (hj : j < n) :
    Calls Try.prog 99 #[.pointer (some ⟨b, o, none⟩), .int .i64 (i : Int), .int .i64 (j : Int)] w fun e w' => e = .returned (.int .i64 x) ∧ w' = w := by
  have hc := hl.cnt
  have q1 : decide (0 ≤ (i : Int) ∧ (i : Int) < (n : Int)) = true := by simp; omega
  have q2 : decide (0 ≤ (j : Int) ∧ (j : Int) < (n : Int)) = true := by simp; omega
  have hi' : (i : Int) < 8 := by omega
  have hj' : (j : Int) < 8 := by omega
  go_enter Try.func99, Try.ntmps99
  go_wp2_with (go_at_call 92; refine (has_any _ _ _ _ _ hc).mono ?_; rintro e w' ⟨rfl, rfl⟩)
  go_ret
  exact ⟨rfl, rfl⟩

end Go.Proofs.Ytfcflnnleadpkab

namespace Go.Proofs.Ytfcflnnleadpkab
open Go.RowKit

/-- A lattice with its joins and its bottom. -/
def fullL (n : Nat) (R : Nat → Nat → Bool) : Array Value := latJ 0 0 n R (jTo n R n 0) (fbK R (n - 1) : Nat)
/-- A lattice as 'readLevels' answers it. -/
def levA (s : ByteArray) (a p : Int) (n : Nat) : Array Value := if a = 0 then fullL n (cl s n) else latC a p n noT
def LevPost (s : ByteArray) (e : Ending) : Prop := ∃ (a p : Int) (n : Nat), ReadPost s a p n ∧ n ≤ 8 ∧ e = .returned (.agg (levA s a p n))
theorem fullL_size (n : Nat) (R : Nat → Nat → Bool) : (fullL n R).size = 132 := latJ_size _ _ _ _ _ _
theorem fullL_all (n : Nat) (R : Nat → Nat → Bool) : (fullL n R).all (·.oneCell') = true := latJ_all _ _ _ _ _ _
theorem levA_0 (s : ByteArray) (p : Int) (n : Nat) : levA s 0 p n = fullL n (cl s n) := by unfold levA; rw [if_pos rfl]
theorem levA_e (s : ByteArray) {a : Int} (h : a ≠ 0) (p : Int) (n : Nat) : levA s a p n = latC a p n noT := by unfold levA; rw [if_neg h]
theorem levA_size (s : ByteArray) (a p : Int) (n : Nat) : (levA s a p n).size = 132 := by
  unfold levA; split
  · exact fullL_size _ _
  · exact latC_size _ _ _ _
theorem levA_all (s : ByteArray) (a p : Int) (n : Nat) : (levA s a p n).all (·.oneCell') = true := by
  unfold levA; split
  · exact fullL_all _ _
  · exact latC_all _ _ _ _

set_option maxHeartbeats 1000000 in
set_option maxRecDepth 100000 in
theorem readLevels_long (w : World) (s : ByteArray) (h : 65 < s.size) :
    Calls Try.prog 27 #[.string s] w fun e w' => e = .returned (.agg (latC 1 0 0 noT)) ∧ Below w.heap.size w w' := by
  have hz := zero_lat
  have z0 := latC_size 0 0 0 noT
  have z1 := latC_size 1 0 0 noT
  have s0 := latC_set0 0 1 0 0 noT
  have s1 := latC_set1 1 0 0 0 noT
  have hgt : (65 : Int) < (s.size : Int) := by omega
  have hst := store_lat (w.alloc (.cells (latC 0 0 0 noT) 58)) w.heap.size 0 0 0 1 0 0 noT noT (heap_alloc_last w _)
  rw [World.setRow_alloc_new] at hst
  go_enter Try.func27, Try.ntmps27
  go_wp2_with fail
  refine bodyPost_ret (v := .agg (latC 1 0 0 noT)) (ret_lat Try.results27 _ _ w.heap.size _ _ _ _ rfl (heap_alloc_last w _)) rfl ⟨rfl, ?_⟩
  exact (Below.refl _ _).alloc (Nat.le_refl _) _

set_option maxHeartbeats 1000000 in
set_option maxRecDepth 100000 in
theorem readLevels_bad (w : World) (s : ByteArray) (h : s.size ≤ 65)
    (hp : ∀ w, Calls Try.prog 39 #[.string s] w fun e w' => (∃ k : Nat, BadAt s k ∧ e = .returned (.agg (latC 2 k 0 noT))) ∧ Below w.heap.size w w') :
    Calls Try.prog 27 #[.string s] w fun e w' => (∃ k : Nat, BadAt s k ∧ e = .returned (.agg (latC 2 k 0 noT))) ∧ Below w.heap.size w w' := by
  have hz := zero_lat
  have HP := hide hp
  clear hp
  have z0 := latC_size 0 0 0 noT
  have hgt : decide ((65 : Int) < (s.size : Int)) = false := by simp; omega
  go_enter Try.func27, Try.ntmps27
  go_wp2_with fail
  refine (unhide HP _).mono ?_
  rintro e w1 ⟨⟨k, hk, rfl⟩, hb⟩
  have HK := hide hk
  clear hk
  have hst := store_lat (w1.alloc (.cells (latC 0 0 0 noT) 58)) w1.heap.size 0 0 0 2 k 0 noT noT (heap_alloc_last w1 _)
  rw [World.setRow_alloc_new] at hst
  have z1 := latC_size 2 k 0 noT
  have c0 := latC_g0 2 k 0 noT
  have hsz : w.heap.size < w1.heap.size := by have := hb.size; simp at this; omega
  have g0 : (w1.alloc (.cells (latC 2 k 0 noT) 58)).heap[w.heap.size]? = some (.cells (latC 0 0 0 noT) 58) :=
    (heap_alloc_old _ _ hsz).trans ((hb.block _ (by simp)).trans (heap_alloc_last w _))
  have hst2 := store_lat _ _ 0 0 0 2 k 0 noT noT g0
  have HG := hide g0
  have HG1 := hide (heap_alloc_last w1 (.cells (latC 2 k 0 noT) 58))
  clear g0
  go_wp2_with (refine wpList_load_row rfl 58 _ rfl w1.heap.size rfl 58 _ (0, 0) _ (unhide HG1) Try.underlying58 rfl (by rw [latC_size]; exact size_lat) ?_)
  refine bodyPost_ret (v := .agg (latC 2 k 0 noT)) (ret_lat Try.results27 _ _ w.heap.size _ _ _ _ rfl (setRow_heap _ _ _ _ _ _ (unhide HG))) rfl ⟨⟨k, unhide HK, rfl⟩, ?_⟩
  exact below_setRow ((((Below.refl _ _).alloc (Nat.le_refl _) _).trans (hb.mono (by simp))).trans ((Below.refl _ _).alloc (by omega) _)) (Nat.le_refl _) _

theorem cl_refl (s : ByteArray) (n i : Nat) (hi : i < n) : cl s n i i = true := wf_refl n _ n i hi
theorem cl_well (s : ByteArray) (n : Nat) : Hm.wellC (cl s n) n = Hm.wellR (cl s n) n := Hm.well_same _ _ (fun i hi => cl_refl s n i hi)

set_option maxHeartbeats 1000000 in
set_option maxRecDepth 100000 in
theorem readLevels_good (w : World) (s : ByteArray) (n : Nat) (h : s.size ≤ 65) (h1 : 1 ≤ n) (hn : n ≤ 8)
    (hp : ∀ w, Calls Try.prog 39 #[.string s] w fun e w' => e = .returned (.agg (latC 0 0 n (pairsTo s n (s.size / 2)))) ∧ Below w.heap.size w w') :
    Calls Try.prog 27 #[.string s] w fun e w' => ((Hm.wellR (cl s n) n = true ∧ e = .returned (.agg (fullL n (cl s n)))) ∨ (Hm.wellR (cl s n) n = false ∧ e = .returned (.agg (latC 3 0 0 noT)))) ∧ Below w.heap.size w w' := by
  have hz := zero_lat
  have HP := hide hp
  clear hp
  have HN := hide hn
  have H1 := hide h1
  clear h1
  have HW := hide (cl_well s n)
  have HCL := hide (show wf n (pairsTo s n (s.size / 2)) n = cl s n from rfl)
  generalize pairsTo s n (s.size / 2) = T at *
  have z0 := latC_size 0 0 0 noT
  have hgt : decide ((65 : Int) < (s.size : Int)) = false := by simp; omega
  go_enter Try.func27, Try.ntmps27
  go_wp2_with fail
  refine (unhide HP _).mono ?_
  rintro e w1 ⟨rfl, hb⟩
  have hst := store_lat (w1.alloc (.cells (latC 0 0 0 noT) 58)) w1.heap.size 0 0 0 0 0 n noT T (heap_alloc_last w1 _)
  rw [World.setRow_alloc_new] at hst
  have z1 := latC_size 0 0 n T
  have c0 := latC_g0 0 0 n T
  have hsz : w.heap.size < w1.heap.size := by have := hb.size; simp at this; omega
  go_wp2_with fail
  refine (addSteps_any _ _ _ _ _ (unhide HN) (heap_alloc_last w1 _)).mono ?_
  rintro e w2 ⟨rfl, hw2⟩
  rw [World.setRow_alloc_new, unhide HCL] at hw2
  subst hw2
  clear hst z1 c0
  go_wp2_with fail
  refine (wellOrdered_any _ _ _ _ (unhide HN) (latC_lat (heap_alloc_last w1 _))).mono ?_
  rintro e w3 ⟨rfl, hb3⟩
  rw [unhide HW]
  have g0 : w3.heap[w.heap.size]? = some (.cells (latC 0 0 0 noT) 58) :=
    (hb3.block _ (by simp; omega)).trans ((heap_alloc_old _ _ hsz).trans ((hb.block _ (by simp)).trans (heap_alloc_last w _)))
  have g1 : w3.heap[w1.heap.size]? = some (.cells (latC 0 0 n (cl s n)) 58) := (hb3.block _ (by simp)).trans (heap_alloc_last w1 _)
  have HG := hide g0
  have HG1 := hide g1
  have HBel := hide (show Below w.heap.size w w3 from (((Below.refl _ _).alloc (Nat.le_refl _) _).trans (hb.mono (by simp))).trans (((Below.refl _ _).alloc (by omega) _).trans (hb3.mono (by simp; omega))))
  clear g1 hb3
  cases hw : Hm.wellR (cl s n) n
  · have z1 := latC_size 3 0 0 noT
    have s0 := latC_set0 0 3 0 0 noT
    have s1 := latC_set1 3 0 0 0 noT
    have hst := store_lat w3 _ 0 0 0 3 0 0 noT noT g0
    clear g0
    go_wp2_with fail
    refine bodyPost_ret (v := .agg (latC 3 0 0 noT)) (ret_lat Try.results27 _ _ w.heap.size _ _ _ _ rfl (setRow_heap _ _ _ _ _ _ (unhide HG))) rfl ⟨Or.inr ⟨hw, rfl⟩, ?_⟩
    exact below_setRow (unhide HBel) (Nat.le_refl _) _
  · clear g0
    go_wp2_with fail
    refine (keepJoins_any _ _ _ _ _ (unhide HN) (unhide HG1)).mono ?_
    rintro e w4 ⟨rfl, q, hw4⟩
    have HN1 := hide (unhide H1)
    have hne : w1.heap.size ≠ w.heap.size := by omega
    have g0 : w4.heap[w.heap.size]? = some (.cells (latC 0 0 0 noT) 58) := by
      rw [hw4]
      exact (setRow_other w3 _ _ _ (Ne.symm hne)).trans (unhide HG)
    have g1 : w4.heap[w1.heap.size]? = some (.cells (latJ 0 0 n (cl s n) (jTo n (cl s n) n 0) 0) 58) := by
      rw [hw4]
      exact setRow_heap w3 _ _ _ _ _ (unhide HG1)
    have HBel4 := hide (show Below w.heap.size w w4 by
      rw [hw4]
      exact below_drewN' (below_setRow (unhide HBel) (show w.heap.size ≤ w1.heap.size by omega) _) q)
    clear hw4 hne
    have HG4 := hide g0
    have HG41 := hide g1
    clear g0 g1
    go_wp2_with fail
    refine (findBottom_any _ _ _ _ (unhide HN1) (unhide HN) (latJ_lat (unhide HG41))).mono ?_
    rintro e w5 ⟨rfl, e5⟩
    rw [e5]
    clear e5
    have c131 : w4.cell? ⟨w1.heap.size, 131, none⟩ = some (.int .i64 0) := (rowF_cell (unhide HG41) (by omega)).trans rfl
    have f131 := frozen_of_row w4 w1.heap.size 131 _ _ (unhide HG41)
    have hset := setCell_eq_setRow w4 w1.heap.size 131 _ _ _ (.int .i64 (fbK (cl s n) (n - 1) : Nat)) (unhide HG41)
    rw [latJ_setz] at hset
    have HSet := hide hset
    clear hset
    have HG5 := hide (show (w4.setCell ⟨w1.heap.size, 131, none⟩ (.int .i64 (fbK (cl s n) (n - 1) : Nat))).heap[w1.heap.size]? = some (.cells (fullL n (cl s n)) 58) by
      rw [unhide HSet]; exact setRow_heap w4 _ _ _ _ _ (unhide HG41))
    have HG50 := (show (w4.setCell ⟨w1.heap.size, 131, none⟩ (.int .i64 (fbK (cl s n) (n - 1) : Nat))).heap[w.heap.size]? = some (.cells (latC 0 0 0 noT) 58) by
      rw [unhide HSet]; exact (setRow_other w4 _ _ _ (by omega)).trans (unhide HG4))
    have hst := store_arr size_lat _ _ _ (fullL n (cl s n)) (latC_size _ _ _ _) (fullL_size _ _) (fullL_all _ _) HG50
    have HG6 := hide HG50
    clear HG50
    have z1 := fullL_size n (cl s n)
    have HBel5 := hide (show Below w.heap.size w (w4.setCell ⟨w1.heap.size, 131, none⟩ (.int .i64 (fbK (cl s n) (n - 1) : Nat))) by
      rw [unhide HSet]; exact below_setRow (unhide HBel4) (by omega) _)
    go_wp2_with (refine wpList_load_row rfl 58 _ rfl w1.heap.size rfl 58 _ (0, 0) _ (unhide HG5) Try.underlying58 rfl (by rw [fullL_size]; exact size_lat) ?_)
    refine bodyPost_ret (v := .agg (fullL n (cl s n))) (ret_latJ Try.results27 _ _ w.heap.size _ _ _ _ _ _ rfl (setRow_heap _ _ _ _ _ _ (unhide HG6))) rfl ⟨Or.inl ⟨hw, rfl⟩, ?_⟩
    exact below_setRow (unhide HBel5) (Nat.le_refl _) _

theorem readLevels_any (w : World) (s : ByteArray) :
    Calls Try.prog 27 #[.string s] w fun e w' => LevPost s e ∧ Below w.heap.size w w' := by
  by_cases h : s.size ≤ 65
  · by_cases hf : ∃ n, FirstOk s n
    · obtain ⟨n, hf⟩ := hf
      have hn8 : n ≤ 8 := hf.2.2.2
      by_cases hgd : GoodOrd s n
      · refine (readLevels_good w s n h hf.2.2.1 hn8 (fun w => (readPairs_ok w s n hf h).mono ?_)).mono ?_
        · rintro e w' ⟨h1, h2⟩
          rcases h1 with ⟨k, h3, _⟩ | ⟨_, h3⟩
          · exact absurd h3 (fun h => Good_not_Bad hgd h)
          · exact ⟨h3, h2⟩
        · rintro e w' ⟨h1, h2⟩
          rcases h1 with ⟨h1, rfl⟩ | ⟨h1, rfl⟩
          · exact ⟨⟨0, 0, n, Or.inr (Or.inr (Or.inr ⟨h, hgd, h1, rfl, rfl⟩)), hn8, by rw [levA_0]⟩, h2⟩
          · exact ⟨⟨3, 0, 0, Or.inr (Or.inr (Or.inl ⟨h, n, hgd, h1, rfl, rfl, rfl⟩)), by omega, by rw [levA_e _ (by omega)]; rfl⟩, h2⟩
      · refine (readLevels_bad w s h (fun w => (readPairs_ok w s n hf h).mono ?_)).mono ?_
        · rintro e w' ⟨h1, h2⟩
          rcases h1 with h3 | ⟨h3, _⟩
          · exact ⟨h3, h2⟩
          · exact absurd h3 hgd
        · rintro e w' ⟨⟨k, h1, rfl⟩, h2⟩
          exact ⟨⟨2, k, 0, Or.inr (Or.inl ⟨h, k, h1, rfl, rfl, rfl⟩), by omega, by rw [levA_e _ (by omega)]; rfl⟩, h2⟩
    · have hf' : ∀ n, ¬ FirstOk s n := fun n hn => hf ⟨n, hn⟩
      refine (readLevels_bad w s h (fun w => (readPairs_bad0 w s hf').mono ?_)).mono ?_
      · rintro e w' ⟨h1, h2⟩
        exact ⟨⟨0, Or.inl ⟨rfl, hf'⟩, h1⟩, h2⟩
      · rintro e w' ⟨⟨k, h1, rfl⟩, h2⟩
        exact ⟨⟨2, k, 0, Or.inr (Or.inl ⟨h, k, h1, rfl, rfl, rfl⟩), by omega, by rw [levA_e _ (by omega)]; rfl⟩, h2⟩
  · refine (readLevels_long w s (by omega)).mono ?_
    rintro e w' ⟨rfl, h2⟩
    exact ⟨⟨1, 0, 0, Or.inl ⟨by omega, rfl, rfl, rfl⟩, by omega, by rw [levA_e _ (by omega)]; rfl⟩, h2⟩

end Go.Proofs.Ytfcflnnleadpkab

namespace Go.Proofs.Ytfcflnnleadpkab
open Go.RowKit

theorem ReadPost_p0 {s : ByteArray} {a p : Int} {n : Nat} (h : ReadPost s a p n) : a = 0 → p = 0 := by
  intro ha
  rcases h with ⟨_, h, _⟩ | ⟨_, _, _, h, _⟩ | ⟨_, _, _, _, h, _⟩ | ⟨_, _, _, _, h⟩ <;> omega
theorem levA_g0 (s : ByteArray) {a p : Int} {n : Nat} (_ : a = 0 → p = 0) (h : 0 < (levA s a p n).size) : (levA s a p n)[0] = .int .i64 a := by
  by_cases ha : a = 0
  · subst ha; simp only [levA_0]; exact latJ_g0 _ _ _ _ _ _ (by rw [levA_0] at h; exact h)
  · simp only [levA_e s ha]; exact latC_g0 _ _ _ _ (by rw [levA_e s ha] at h; exact h)
theorem levA_g1 (s : ByteArray) {a p : Int} {n : Nat} (h0 : a = 0 → p = 0) (h : 1 < (levA s a p n).size) : (levA s a p n)[1] = .int .i64 p := by
  by_cases ha : a = 0
  · have hp := h0 ha
    subst ha; subst hp; simp only [levA_0]; exact latJ_g1 _ _ _ _ _ _ (by rw [levA_0] at h; exact h)
  · simp only [levA_e s ha]; exact latC_g1 _ _ _ _ (by rw [levA_e s ha] at h; exact h)

theorem fullL_lat {w : World} {b n : Nat} {R : Nat → Nat → Bool} {t : TypeId} {fr : Nat × Nat} (h : w.heap[b]? = some (.cells (fullL n R) t fr)) : LatM w b 0 n R := latJ_lat h
theorem fullL_jo {w : World} {b n i j : Nat} {R : Nat → Nat → Bool} {t : TypeId} {fr : Nat × Nat} (h : w.heap[b]? = some (.cells (fullL n R) t fr)) (hi : i < n) (hj : j < n) (hn : n ≤ 8) : w.cell? ⟨b, 0 + 67 + i * 8 + j, none⟩ = some (.int .i64 (Hm.joinI R n i j)) := by
  rw [show 0 + 67 + i * 8 + j = 67 + i * 8 + j by omega, rowF_cell h (by omega), latF_jj _ _ _ _ _ _ _ _ (by omega) (by omega), jTo_all _ _ _ _ hi hj]
theorem fullL_g0 (n : Nat) (R : Nat → Nat → Bool) (h : 0 < (fullL n R).size) : (fullL n R)[0] = .int .i64 0 := latJ_g0 _ _ _ _ _ _ h

end Go.Proofs.Ytfcflnnleadpkab
