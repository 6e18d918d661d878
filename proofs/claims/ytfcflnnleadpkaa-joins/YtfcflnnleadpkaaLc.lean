import Derived.Test.YtfcflnnleadpkaaLb
namespace Go.Proofs.Ytfcflnnleadpkaa
open Go.RowKit

theorem LatM.c0 {w : World} {b n : Nat} {R : Nat → Nat → Bool} (h : LatM w b 0 n R) : w.cell? ⟨b, 2, none⟩ = some (.int .i64 (n : Int)) := by simpa using h.cnt
theorem LatM.b0 {w : World} {b n : Nat} {R : Nat → Nat → Bool} (h : LatM w b 0 n R) (i j : Nat) (hi : i < 8) (hj : j < 8) : w.cell? ⟨b, 3 + i * 8 + j, none⟩ = some (.bool (R i j)) := by simpa using h.bel i j hi hj
theorem latJ_lat {w : World} {b n : Nat} {e p : Int} {R : Nat → Nat → Bool} {J : Nat → Nat → Int} {z : Int} {t : TypeId} {fr : Nat × Nat} (h : w.heap[b]? = some (.cells (latJ e p n R J z) t fr)) : LatM w b 0 n R :=
  ⟨rowF_cell h (by omega), fun i j hi hj => by rw [show 0 + 3 + i * 8 + j = 3 + i * 8 + j by omega, rowF_cell h (by omega), latF_ij _ _ _ _ _ _ _ _ hi hj]⟩
theorem latC_lat {w : World} {b n : Nat} {e p : Int} {R : Nat → Nat → Bool} {t : TypeId} {fr : Nat × Nat} (h : w.heap[b]? = some (.cells (latC e p n R) t fr)) : LatM w b 0 n R := latJ_lat h
theorem lat_set {w : World} {b : Nat} {n e p : Int} {R S : Nat → Nat → Bool} {t : TypeId} {fr : Nat × Nat} (h : w.heap[b]? = some (.cells (latC e p n R) t fr)) {i j : Nat} {v : Bool} (hi : i < 8) (hj : j < 8)
    (hS : ∀ x y, x < 8 → y < 8 → updV R i j v x y = S x y) : w.setCell ⟨b, 3 + i * 8 + j, none⟩ (.bool v) = w.setRow b (latC e p n S) := by
  rw [setCell_eq_setRow w b _ _ t fr _ h, latC_set _ _ _ _ _ _ _ hi hj, latC_congr _ _ _ _ S hS]

set_option maxHeartbeats 1000000 in
set_option maxRecDepth 100000 in
theorem addSteps_any (w : World) (b n : Nat) (R : Nat → Nat → Bool) (t : TypeId) (hn : n ≤ 8) (hg : w.heap[b]? = some (.cells (latC 0 0 n R) t (0, 0))) :
    Calls Try.prog 50 #[.pointer (some ⟨b, 0, none⟩)] w fun e w' => e = .returned (.tuple #[]) ∧ w' = w.setRow b (latC 0 0 n (wf n R n)) := by
  have HG := hide (fun S : Nat → Nat → Bool => setRow_heap w b _ (latC 0 0 n S) t (0, 0) hg)
  have HC := hide (fun S : Nat → Nat → Bool => latC_lat (setRow_heap w b _ (latC 0 0 n S) t (0, 0) hg))
  have HZ := hide (fun (S : Nat → Nat → Bool) j => frozen_of_row (w.setRow b (latC 0 0 n S)) b j _ t (setRow_heap w b _ _ t (0, 0) hg))
  have HS := hide (show w = w.setRow b (latC 0 0 n (diagU R 0)) by
    rw [latC_congr 0 0 n (diagU R 0) R (fun i j _ _ => by simp [diagU]), setRow_self w b _ t (0, 0) hg])
  clear hg
  go_enter Try.func50, Try.ntmps50
  go_wp2_with fail
  go_loopw [2] (fun d wr => ∃ a : Nat, a ≤ n ∧ d = .int .i64 (a : Int) ∧ wr = w.setRow b (latC 0 0 n (diagU R a))) (fun d _ => n - (intOf d).toNat)
  case atStart => exact ⟨0, Nat.zero_le _, rfl, unhide HS⟩
  case round =>
    obtain ⟨a, ha, rfl, rfl⟩ := hrel
    have hc := (unhide HC (diagU R a)).c0
    by_cases hlt : a < n
    · have hb := (unhide HC (diagU R a)).b0 a a (by omega) (by omega)
      have hz := unhide HZ (diagU R a) (3 + a * 8 + a)
      have ha' : (a : Int) < 8 := by omega
      go_wp2_with fail
      go_roundw
      case rel => exact ⟨a + 1, by omega, by go_num, by rw [lat_set (unhide HG (diagU R a)) (by omega) (by omega) (fun x y _ _ => diagU_step R a x y), setRow_setRow]⟩
      case measure => simp [intOf]; omega
    · have ea : a = n := by omega
      subst ea
      go_wp2_with fail
      clear hc
      go_loopw [3] (fun d wr => ∃ k : Nat, k ≤ a ∧ d = .int .i64 (k : Int) ∧ wr = w.setRow b (latC 0 0 a (wf a R k))) (fun d _ => a - (intOf d).toNat)
      case atStart => exact ⟨0, Nat.zero_le _, rfl, rfl⟩
      case round =>
        obtain ⟨k, hk, rfl, rfl⟩ := hrel
        have hc := (unhide HC (wf a R k)).c0
        by_cases hlk : k < a
        · have hk' : (k : Int) < 8 := by omega
          have HK := hide (show wf a R (k + 1) = stp a (wf a R k) k a 0 from rfl)
          generalize wf a R k = S at *
          go_wp2_with fail
          clear hc
          go_loopw [4] (fun d wr => ∃ i : Nat, i ≤ a ∧ d = .int .i64 (i : Int) ∧ wr = w.setRow b (latC 0 0 a (stp a S k i 0))) (fun d _ => a - (intOf d).toNat)
          case atStart => exact ⟨0, Nat.zero_le _, rfl, by rw [stp_zero]⟩
          case round =>
            obtain ⟨i, hi, rfl, rfl⟩ := hrel
            have hc := (unhide HC (stp a S k i 0)).c0
            by_cases hli : i < a
            · have hi' : (i : Int) < 8 := by omega
              go_wp2_with fail
              clear hc
              go_loopw [5] (fun d wr => ∃ j : Nat, j ≤ a ∧ d = .int .i64 (j : Int) ∧ wr = w.setRow b (latC 0 0 a (stp a S k i j))) (fun d _ => a - (intOf d).toNat)
              case atStart => exact ⟨0, Nat.zero_le _, rfl, rfl⟩
              case round =>
                obtain ⟨j, hj, rfl, rfl⟩ := hrel
                have hc := (unhide HC (stp a S k i j)).c0
                by_cases hlj : j < a
                · have hj' : (j : Int) < 8 := by omega
                  have b1 := (unhide HC (stp a S k i j)).b0 i k (by omega) (by omega)
                  have b2 := (unhide HC (stp a S k i j)).b0 k j (by omega) (by omega)
                  have b3 := (unhide HC (stp a S k i j)).b0 i j (by omega) (by omega)
                  rw [stp_col] at b1
                  rw [stp_row] at b2
                  cases h1 : S i k
                  · rw [h1] at b1
                    have HN := hide (stp_no a S k i j (by simp [h1]))
                    go_wp2_with fail
                    go_roundw
                    case rel => exact ⟨j + 1, by omega, by go_num, by rw [unhide HN]⟩
                    case measure => simp [intOf]; omega
                  · rw [h1] at b1
                    cases h2 : S k j
                    · rw [h2] at b2
                      have HN := hide (stp_no a S k i j (by simp [h2]))
                      go_wp2_with fail
                      go_roundw
                      case rel => exact ⟨j + 1, by omega, by go_num, by rw [unhide HN]⟩
                      case measure => simp [intOf]; omega
                    · rw [h2] at b2
                      have hz := unhide HZ (stp a S k i j) (3 + i * 8 + j)
                      go_wp2_with fail
                      go_roundw
                      case rel => exact ⟨j + 1, by omega, by go_num, by rw [lat_set (unhide HG (stp a S k i j)) (by omega) (by omega) (fun x y _ _ => stp_set a S k i j hlj h1 h2 x y), setRow_setRow]⟩
                      case measure => simp [intOf]; omega
                · go_wp2_with fail
                  go_roundw
                  case rel => exact ⟨i + 1, by omega, by go_num, by rw [stp_next a S k i j (by omega)]⟩
                  case measure => simp [intOf]; omega
            · have ei : i = a := by omega
              subst ei
              go_wp2_with fail
              go_roundw
              case rel => exact ⟨k + 1, by omega, by go_num, by rw [unhide HK]⟩
              case measure => simp [intOf]; omega
        · have ek : k = a := by omega
          subst ek
          go_wp2_with fail
          go_end0
          exact ⟨rfl, rfl⟩

end Go.Proofs.Ytfcflnnleadpkaa
