import Derived.Test.YtagglmnmjahnjaaLb
import Derived.Laws.Tables
import Derived.Laws.Rows
import Derived.Laws.CopyRow
namespace Go.Proofs.Ytagglmnmjahnjaa
open Go.RowKit

/-- The cells of a lattice. -/
def latC (e p n : Int) (R : Nat → Nat → Bool) : Array Value :=
  (Value.int .i64 e :: Value.int .i64 p :: Value.int .i64 n :: (List.range 64).map fun k => Value.bool (R (k / 8) (k % 8))).toArray

theorem latC_size (e p n : Int) (R : Nat → Nat → Bool) : (latC e p n R).size = 67 := by simp [latC]
theorem latC_0 (e p n : Int) (R : Nat → Nat → Bool) : (latC e p n R)[0]? = some (.int .i64 e) := by simp [latC]
theorem latC_1 (e p n : Int) (R : Nat → Nat → Bool) : (latC e p n R)[1]? = some (.int .i64 p) := by simp [latC]
theorem latC_2 (e p n : Int) (R : Nat → Nat → Bool) : (latC e p n R)[2]? = some (.int .i64 n) := by simp [latC]
theorem latC_k (e p n : Int) (R : Nat → Nat → Bool) (k : Nat) : (latC e p n R)[k + 3]? = if k < 64 then some (.bool (R (k / 8) (k % 8))) else none := by
  simp only [latC, List.getElem?_toArray, List.getElem?_cons_succ]
  by_cases h : k < 64
  · simp [h]
  · simp [h]
theorem latC_ij (e p n : Int) (R : Nat → Nat → Bool) (i j : Nat) (hi : i < 8) (hj : j < 8) : (latC e p n R)[3 + i * 8 + j]? = some (.bool (R i j)) := by
  rw [show 3 + i * 8 + j = (i * 8 + j) + 3 from by omega, latC_k, if_pos (by omega), show (i * 8 + j) / 8 = i from by omega, show (i * 8 + j) % 8 = j from by omega]
theorem latC_congr (e p n : Int) (R S : Nat → Nat → Bool) (h : ∀ i j, i < 8 → j < 8 → R i j = S i j) : latC e p n R = latC e p n S := by
  unfold latC
  congr 4
  apply List.map_congr_left
  intro k hk
  have hk' : k < 64 := by simpa using hk
  rw [h (k / 8) (k % 8) (by omega) (by omega)]
theorem latC_set (e p n : Int) (R : Nat → Nat → Bool) (a b : Nat) (v : Bool) (ha : a < 8) (hb : b < 8) : (latC e p n R).setIfInBounds (3 + a * 8 + b) (.bool v) = latC e p n (updV R a b v) := by
  apply Array.ext_getElem?
  intro k
  rw [Array.getElem?_setIfInBounds]
  match k with
  | 0 => rw [if_neg (by omega), latC_0, latC_0]
  | 1 => rw [if_neg (by omega), latC_1, latC_1]
  | 2 => rw [if_neg (by omega), latC_2, latC_2]
  | k + 3 =>
    rw [latC_k, latC_k, latC_size]
    by_cases h : 3 + a * 8 + b = k + 3
    · have hk : k = a * 8 + b := by omega
      have e1 : k / 8 = a := by omega
      have e2 : k % 8 = b := by omega
      rw [if_pos h, if_pos (by omega), if_pos (by omega), e1, e2]
      simp [updV]
    · rw [if_neg h]
      by_cases hk : k < 64
      · have : (k / 8 == a && k % 8 == b) = false := by
          cases h1 : (k / 8 == a && k % 8 == b) with
          | false => rfl
          | true =>
            simp at h1
            exact absurd (by omega) h
        simp [hk, updV, this]
      · simp [hk]
theorem latC_all (e p n : Int) (R : Nat → Nat → Bool) : (latC e p n R).all (·.oneCell') = true := by
  rw [Array.all_eq_true_iff_forall_mem]
  intro v hv
  simp [latC] at hv
  rcases hv with rfl | rfl | rfl | ⟨k, _, rfl⟩ <;> rfl
theorem latC_lat {w : World} {b n : Nat} {e p : Int} {R : Nat → Nat → Bool} {t : TypeId} {fr : Nat × Nat} (h : w.heap[b]? = some (.cells (latC e p n R) t fr)) : Lat w b n R :=
  ⟨by rw [cell_of_row w b 2 _ t fr h, latC_2], fun i j hi hj => by rw [cell_of_row w b _ _ t fr h, latC_ij _ _ _ _ _ _ hi hj]⟩
theorem lat_set {w : World} {b : Nat} {n e p : Int} {R S : Nat → Nat → Bool} {t : TypeId} {fr : Nat × Nat} (h : w.heap[b]? = some (.cells (latC e p n R) t fr)) {i j : Nat} {v : Bool} (hi : i < 8) (hj : j < 8)
    (hS : ∀ x y, x < 8 → y < 8 → updV R i j v x y = S x y) : w.setCell ⟨b, 3 + i * 8 + j, none⟩ (.bool v) = w.setRow b (latC e p n S) := by
  rw [setCell_eq_setRow w b _ _ t fr _ h, latC_set _ _ _ _ _ _ _ hi hj, latC_congr _ _ _ _ S hS]

set_option maxHeartbeats 1000000 in
theorem addSteps_any (w : World) (b n : Nat) (R : Nat → Nat → Bool) (t : TypeId) (hn : n ≤ 8) (hg : w.heap[b]? = some (.cells (latC 0 0 n R) t (0, 0))) :
    Calls Try.prog 31 #[.pointer (some ⟨b, 0, none⟩)] w fun e w' => e = .returned (.tuple #[]) ∧ w' = w.setRow b (latC 0 0 n (wf n R n)) := by
  have HG := hide (fun S : Nat → Nat → Bool => setRow_heap w b _ (latC 0 0 n S) t (0, 0) hg)
  have HC := hide (fun S : Nat → Nat → Bool => latC_lat (setRow_heap w b _ (latC 0 0 n S) t (0, 0) hg))
  have HZ := hide (fun (S : Nat → Nat → Bool) j => frozen_of_row (w.setRow b (latC 0 0 n S)) b j _ t (setRow_heap w b _ _ t (0, 0) hg))
  have HS := hide (show w = w.setRow b (latC 0 0 n (diagU R 0)) by
    rw [latC_congr 0 0 n (diagU R 0) R (fun i j _ _ => by simp [diagU]), setRow_self w b _ t (0, 0) hg])
  clear hg
  go_enter Try.func31, Try.ntmps31
  go_wp2_with fail
  go_loopw [2] (fun d wr => ∃ a : Nat, a ≤ n ∧ d = .int .i64 (a : Int) ∧ wr = w.setRow b (latC 0 0 n (diagU R a))) (fun d _ => n - (intOf d).toNat)
  case atStart => exact ⟨0, Nat.zero_le _, rfl, unhide HS⟩
  case round =>
    obtain ⟨a, ha, rfl, rfl⟩ := hrel
    have hc := (unhide HC (diagU R a)).cnt
    by_cases hlt : a < n
    · have hb := (unhide HC (diagU R a)).bel a a (by omega) (by omega)
      have hz := unhide HZ (diagU R a) (3 + a * 8 + a)
      have ha' : (a : Int) < 8 := by omega
      go_wp2_with fail
      go_roundw
      case rel => exact ⟨a + 1, by omega, by go_num, by rw [lat_set (unhide HG (diagU R a)) (by omega) (by omega) (fun x y _ _ => diagU_step R a x y), setRow_setRow]⟩
      case measure => simp [intOf]; omega
    · have ea : a = n := by omega
      subst ea
      go_wp2_with fail
      clear hc
      go_loopw [3] (fun d wr => ∃ k : Nat, k ≤ a ∧ d = .int .i64 (k : Int) ∧ wr = w.setRow b (latC 0 0 a (wf a R k))) (fun d _ => a - (intOf d).toNat)
      case atStart => exact ⟨0, Nat.zero_le _, rfl, rfl⟩
      case round =>
        obtain ⟨k, hk, rfl, rfl⟩ := hrel
        have hc := (unhide HC (wf a R k)).cnt
        by_cases hlk : k < a
        · have hk' : (k : Int) < 8 := by omega
          have HK := hide (show wf a R (k + 1) = stp a (wf a R k) k a 0 from rfl)
          generalize wf a R k = S at *
          go_wp2_with fail
          clear hc
          go_loopw [4] (fun d wr => ∃ i : Nat, i ≤ a ∧ d = .int .i64 (i : Int) ∧ wr = w.setRow b (latC 0 0 a (stp a S k i 0))) (fun d _ => a - (intOf d).toNat)
          case atStart => exact ⟨0, Nat.zero_le _, rfl, by rw [stp_zero]⟩
          case round =>
            obtain ⟨i, hi, rfl, rfl⟩ := hrel
            have hc := (unhide HC (stp a S k i 0)).cnt
            by_cases hli : i < a
            · have hi' : (i : Int) < 8 := by omega
              go_wp2_with fail
              clear hc
              go_loopw [5] (fun d wr => ∃ j : Nat, j ≤ a ∧ d = .int .i64 (j : Int) ∧ wr = w.setRow b (latC 0 0 a (stp a S k i j))) (fun d _ => a - (intOf d).toNat)
              case atStart => exact ⟨0, Nat.zero_le _, rfl, rfl⟩
              case round =>
                obtain ⟨j, hj, rfl, rfl⟩ := hrel
                have hc := (unhide HC (stp a S k i j)).cnt
                by_cases hlj : j < a
                · have hj' : (j : Int) < 8 := by omega
                  have b1 := (unhide HC (stp a S k i j)).bel i k (by omega) (by omega)
                  have b2 := (unhide HC (stp a S k i j)).bel k j (by omega) (by omega)
                  have b3 := (unhide HC (stp a S k i j)).bel i j (by omega) (by omega)
                  rw [stp_col] at b1
                  rw [stp_row] at b2
                  cases h1 : S i k
                  · rw [h1] at b1
                    have HN := hide (stp_no a S k i j (by simp [h1]))
                    go_wp2_with fail
                    go_roundw
                    case rel => exact ⟨j + 1, by omega, by go_num, by rw [unhide HN]⟩
                    case measure => simp [intOf]; omega
                  · rw [h1] at b1
                    cases h2 : S k j
                    · rw [h2] at b2
                      have HN := hide (stp_no a S k i j (by simp [h2]))
                      go_wp2_with fail
                      go_roundw
                      case rel => exact ⟨j + 1, by omega, by go_num, by rw [unhide HN]⟩
                      case measure => simp [intOf]; omega
                    · rw [h2] at b2
                      have hz := unhide HZ (stp a S k i j) (3 + i * 8 + j)
                      go_wp2_with fail
                      go_roundw
                      case rel => exact ⟨j + 1, by omega, by go_num, by rw [lat_set (unhide HG (stp a S k i j)) (by omega) (by omega) (fun x y _ _ => stp_set a S k i j hlj h1 h2 x y), setRow_setRow]⟩
                      case measure => simp [intOf]; omega
                · go_wp2_with fail
                  go_roundw
                  case rel => exact ⟨i + 1, by omega, by go_num, by rw [stp_next a S k i j (by omega)]⟩
                  case measure => simp [intOf]; omega
            · have ei : i = a := by omega
              subst ei
              go_wp2_with fail
              go_roundw
              case rel => exact ⟨k + 1, by omega, by go_num, by rw [unhide HK]⟩
              case measure => simp [intOf]; omega
        · have ek : k = a := by omega
          subst ek
          go_wp2_with fail
          go_end0
          exact ⟨rfl, rfl⟩

end Go.Proofs.Ytagglmnmjahnjaa
