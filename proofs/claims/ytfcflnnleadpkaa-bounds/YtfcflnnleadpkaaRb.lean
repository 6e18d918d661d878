import Derived.Test.YtfcflnnleadpkaaRa
namespace Go.Proofs.Ytfcflnnleadpkaa
open Go.RowKit

theorem wellRow_circle {R : Nat → Nat → Bool} {n a m : Nat} (h0 : ((a : Int) != (m : Int)) = true) (h1 : R a m = true) (h2 : R m a = true) : Hm.wellRow R n a m = false := by
  have : a ≠ m := by intro e; subst e; simp at h0
  simp [Hm.wellRow, h1, h2, this]
theorem wellRow_join {R : Nat → Nat → Bool} {n a m : Nat} (h3 : decide (Hm.joinI R n a m < 0) = true) : Hm.wellRow R n a m = false := by
  unfold Hm.wellRow; rw [h3]; simp
theorem wellRow_meet {R : Nat → Nat → Bool} {n a m : Nat} (h4 : Hm.meets R n a m = false) : Hm.wellRow R n a m = false := by
  unfold Hm.wellRow; rw [h4]; simp
theorem wellRow_ok0 {R : Nat → Nat → Bool} {n a m : Nat} (h0 : ((a : Int) != (m : Int)) = false) (h3 : decide (Hm.joinI R n a m < 0) = false) (h4 : Hm.meets R n a m = true) : Hm.wellRow R n a m = true := by
  have h0' : (a : Int) = (m : Int) := by simpa using h0
  have : a = m := by omega
  unfold Hm.wellRow; rw [h3, h4]; simp [this]
theorem wellRow_ok1 {R : Nat → Nat → Bool} {n a m : Nat} (h1 : R a m = false) (h3 : decide (Hm.joinI R n a m < 0) = false) (h4 : Hm.meets R n a m = true) : Hm.wellRow R n a m = true := by
  unfold Hm.wellRow; rw [h3, h4]; simp [h1]
theorem wellRow_ok2 {R : Nat → Nat → Bool} {n a m : Nat} (h1 : R m a = false) (h3 : decide (Hm.joinI R n a m < 0) = false) (h4 : Hm.meets R n a m = true) : Hm.wellRow R n a m = true := by
  unfold Hm.wellRow; rw [h3, h4]; simp [h1]

set_option maxHeartbeats 1000000 in
theorem well_any (w : World) (o g cap n : Nat) (rb : Nat → Nat) (R : Nat → Nat → Bool) (hn : n ≤ 8) (ho : Ord w o g cap n rb R) :
    Calls Try.prog 35 #[.pointer (some ⟨o, 0, none⟩)] w fun e w' => e = .returned (.bool (Hm.wellR R n)) ∧ w' = w := by
  have hc := ho.cn
  have hb := ho.cb
  have HF := hide (show Hm.wellR R n = Hm.allB (Hm.wellLine R n) n 0 from rfl)
  go_enter Try.func35, Try.ntmps35
  go_wp2_with fail
  go_loop [3] (fun d => ∃ a : Nat, a ≤ n ∧ d = .int .i64 (a : Int) ∧ Hm.allB (Hm.wellLine R n) n 0 = Hm.allB (Hm.wellLine R n) (n - a) a) (fun d => n - (intOf d).toNat)
  case atStart => exact ⟨0, Nat.zero_le _, rfl, rfl⟩
  case round =>
    obtain ⟨a, ha, rfl, hq⟩ := hrel
    have HQ := hide hq
    clear hq
    by_cases hlt : a < n
    · have HY := hide (fun h => Hm.allB_yes (p := Hm.wellLine R n) hlt h)
      have HN := hide (fun h => Hm.allB_no (p := Hm.wellLine R n) hlt h)
      have HG := hide (show Hm.wellLine R n a = Hm.allB (Hm.wellRow R n a) n 0 from rfl)
      have r1 := ho.row a hlt
      go_wp2_with fail
      go_loop [4] (fun d => ∃ m : Nat, m ≤ n ∧ d = .int .i64 (m : Int) ∧ Hm.allB (Hm.wellRow R n a) n 0 = Hm.allB (Hm.wellRow R n a) (n - m) m) (fun d => n - (intOf d).toNat)
      case atStart => exact ⟨0, Nat.zero_le _, rfl, rfl⟩
      case round =>
        obtain ⟨m, hm, rfl, hq⟩ := hrel
        have HP := hide hq
        clear hq
        by_cases hlm : m < n
        · have r2 := ho.row m hlm
          have b1 := ho.bel a m hlt hlm
          have b2 := ho.bel m a hlm hlt
          have HSY := hide (fun h => Hm.allB_yes (p := Hm.wellRow R n a) hlm h)
          have HSN := hide (fun h => Hm.allB_no (p := Hm.wellRow R n a) hlm h)
          cases h0 : ((a : Int) != (m : Int))
          · cases h3 : decide (Hm.joinI R n a m < 0)
            · cases h4 : Hm.meets R n a m
              · go_wp2_with fail
                refine (Join_any _ _ _ _ _ _ _ _ _ hn ho hlt hlm).mono ?_
                rintro e w' ⟨rfl, rfl⟩
                go_wp2_with fail
                refine (meets_any _ _ _ _ _ _ _ _ _ hn ho hlt hlm).mono ?_
                rintro e w' ⟨rfl, rfl⟩
                go_wp2_with fail
                go_ret
                exact ⟨by rw [unhide HF, unhide HQ, unhide HN (by rw [unhide HG, unhide HP, unhide HSN (wellRow_meet h4)])]; rfl, rfl⟩
              · have hw := wellRow_ok0 h0 h3 h4
                go_wp2_with fail
                refine (Join_any _ _ _ _ _ _ _ _ _ hn ho hlt hlm).mono ?_
                rintro e w' ⟨rfl, rfl⟩
                go_wp2_with fail
                refine (meets_any _ _ _ _ _ _ _ _ _ hn ho hlt hlm).mono ?_
                rintro e w' ⟨rfl, rfl⟩
                go_wp2_with fail
                go_round
                case rel => exact ⟨m + 1, by omega, by go_num, by rw [unhide HP, unhide HSY hw]⟩
                case measure => simp [intOf]; omega
            · go_wp2_with fail
              refine (Join_any _ _ _ _ _ _ _ _ _ hn ho hlt hlm).mono ?_
              rintro e w' ⟨rfl, rfl⟩
              go_wp2_with fail
              go_ret
              exact ⟨by rw [unhide HF, unhide HQ, unhide HN (by rw [unhide HG, unhide HP, unhide HSN (wellRow_join h3)])]; rfl, rfl⟩
          · cases h1 : R a m
            · rw [h1] at b1
              cases h3 : decide (Hm.joinI R n a m < 0)
              · cases h4 : Hm.meets R n a m
                · go_wp2_with fail
                  refine (Join_any _ _ _ _ _ _ _ _ _ hn ho hlt hlm).mono ?_
                  rintro e w' ⟨rfl, rfl⟩
                  go_wp2_with fail
                  refine (meets_any _ _ _ _ _ _ _ _ _ hn ho hlt hlm).mono ?_
                  rintro e w' ⟨rfl, rfl⟩
                  go_wp2_with fail
                  go_ret
                  exact ⟨by rw [unhide HF, unhide HQ, unhide HN (by rw [unhide HG, unhide HP, unhide HSN (wellRow_meet h4)])]; rfl, rfl⟩
                · have hw := wellRow_ok1 h1 h3 h4
                  go_wp2_with fail
                  refine (Join_any _ _ _ _ _ _ _ _ _ hn ho hlt hlm).mono ?_
                  rintro e w' ⟨rfl, rfl⟩
                  go_wp2_with fail
                  refine (meets_any _ _ _ _ _ _ _ _ _ hn ho hlt hlm).mono ?_
                  rintro e w' ⟨rfl, rfl⟩
                  go_wp2_with fail
                  go_round
                  case rel => exact ⟨m + 1, by omega, by go_num, by rw [unhide HP, unhide HSY hw]⟩
                  case measure => simp [intOf]; omega
              · go_wp2_with fail
                refine (Join_any _ _ _ _ _ _ _ _ _ hn ho hlt hlm).mono ?_
                rintro e w' ⟨rfl, rfl⟩
                go_wp2_with fail
                go_ret
                exact ⟨by rw [unhide HF, unhide HQ, unhide HN (by rw [unhide HG, unhide HP, unhide HSN (wellRow_join h3)])]; rfl, rfl⟩
            · rw [h1] at b1
              cases h2 : R m a
              · rw [h2] at b2
                cases h3 : decide (Hm.joinI R n a m < 0)
                · cases h4 : Hm.meets R n a m
                  · go_wp2_with fail
                    refine (Join_any _ _ _ _ _ _ _ _ _ hn ho hlt hlm).mono ?_
                    rintro e w' ⟨rfl, rfl⟩
                    go_wp2_with fail
                    refine (meets_any _ _ _ _ _ _ _ _ _ hn ho hlt hlm).mono ?_
                    rintro e w' ⟨rfl, rfl⟩
                    go_wp2_with fail
                    go_ret
                    exact ⟨by rw [unhide HF, unhide HQ, unhide HN (by rw [unhide HG, unhide HP, unhide HSN (wellRow_meet h4)])]; rfl, rfl⟩
                  · have hw := wellRow_ok2 h2 h3 h4
                    go_wp2_with fail
                    refine (Join_any _ _ _ _ _ _ _ _ _ hn ho hlt hlm).mono ?_
                    rintro e w' ⟨rfl, rfl⟩
                    go_wp2_with fail
                    refine (meets_any _ _ _ _ _ _ _ _ _ hn ho hlt hlm).mono ?_
                    rintro e w' ⟨rfl, rfl⟩
                    go_wp2_with fail
                    go_round
                    case rel => exact ⟨m + 1, by omega, by go_num, by rw [unhide HP, unhide HSY hw]⟩
                    case measure => simp [intOf]; omega
                · go_wp2_with fail
                  refine (Join_any _ _ _ _ _ _ _ _ _ hn ho hlt hlm).mono ?_
                  rintro e w' ⟨rfl, rfl⟩
                  go_wp2_with fail
                  go_ret
                  exact ⟨by rw [unhide HF, unhide HQ, unhide HN (by rw [unhide HG, unhide HP, unhide HSN (wellRow_join h3)])]; rfl, rfl⟩
              · rw [h2] at b2
                go_wp2_with fail
                go_ret
                exact ⟨by rw [unhide HF, unhide HQ, unhide HN (by rw [unhide HG, unhide HP, unhide HSN (wellRow_circle h0 h1 h2)])]; rfl, rfl⟩
        · have HS := hide (Hm.allB_end (p := Hm.wellRow R n a) (n := n) (k := m) (by omega))
          go_wp2_with fail
          go_round
          case rel => exact ⟨a + 1, by omega, by go_num, by rw [unhide HQ, unhide HY (by rw [unhide HG, unhide HP, unhide HS])]⟩
          case measure => simp [intOf]; omega
    · have HS := hide (Hm.allB_end (p := Hm.wellLine R n) (n := n) (k := a) (by omega))
      go_wp2_with fail
      go_ret
      exact ⟨by rw [unhide HF, unhide HQ, unhide HS]; rfl, rfl⟩

end Go.Proofs.Ytfcflnnleadpkaa
