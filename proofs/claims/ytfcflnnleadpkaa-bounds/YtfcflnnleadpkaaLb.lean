import Derived.Test.YtfcflnnleadpkaaLa
namespace Go.Proofs.Ytfcflnnleadpkaa
open Go.RowKit

set_option maxHeartbeats 400000 in
theorem findJoin_any (w : World) (b o n i j : Nat) (R : Nat → Nat → Bool) (hn : n ≤ 8) (hl : LatM w b o n R) (hi : i < n) (hj : j < n) :
    Calls Try.prog 69 #[.pointer (some ⟨b, o, none⟩), .int .i64 (i : Int), .int .i64 (j : Int)] w fun e w' => e = .returned (.int .i64 (Hm.joinI R n i j)) ∧ w' = w := by
  have hc := hl.cnt
  have HF := hide (show Hm.joinI R n i j = Hm.firstB (Hm.lub R n i j) n 0 from rfl)
  go_enter Try.func69, Try.ntmps69
  go_wp2_with fail
  go_loop [7] (fun d => ∃ m : Nat, m ≤ n ∧ d = .int .i64 (m : Int) ∧ Hm.firstB (Hm.lub R n i j) n 0 = Hm.firstB (Hm.lub R n i j) (n - m) m) (fun d => n - (intOf d).toNat)
  case atStart => exact ⟨0, Nat.zero_le _, rfl, rfl⟩
  case round =>
    obtain ⟨m, hm, rfl, hq⟩ := hrel
    have HQ := hide hq
    clear hq
    by_cases hlt : m < n
    · cases h2 : Hm.lub R n i j m
      · have HS := hide (Hm.firstB_no (p := Hm.lub R n i j) hlt h2)
        go_wp2_with fail
        refine (isJoin_any _ _ _ _ _ _ _ _ hn hl hi hj hlt).mono ?_
        rintro e w' ⟨rfl, rfl⟩
        go_wp2_with fail
        go_round
        case rel => exact ⟨m + 1, by omega, by go_num, by rw [unhide HQ, unhide HS]⟩
        case measure => simp [intOf]; omega
      · have HS := hide (Hm.firstB_yes (p := Hm.lub R n i j) hlt h2)
        go_wp2_with fail
        refine (isJoin_any _ _ _ _ _ _ _ _ hn hl hi hj hlt).mono ?_
        rintro e w' ⟨rfl, rfl⟩
        go_wp2_with fail
        go_ret
        exact ⟨by rw [unhide HF, unhide HQ, unhide HS]; rfl, rfl⟩
    · have HS := hide (Hm.firstB_end (p := Hm.lub R n i j) (n := n) (k := m) (by omega))
      go_wp2_with fail
      go_ret
      exact ⟨by rw [unhide HF, unhide HQ, unhide HS]; rfl, rfl⟩

set_option maxHeartbeats 400000 in
theorem hasCircle_any (w : World) (b o n : Nat) (R : Nat → Nat → Bool) (hn : n ≤ 8) (hl : LatM w b o n R) :
    Calls Try.prog 66 #[.pointer (some ⟨b, o, none⟩)] w fun e w' => e = .returned (.bool (Hm.circ R n)) ∧ w' = w := by
  have hc := hl.cnt
  have HF := hide (show Hm.circ R n = Hm.anyB (Hm.circRow R) n 0 from rfl)
  go_enter Try.func66, Try.ntmps66
  go_wp2_with fail
  go_loop [3] (fun d => ∃ a : Nat, a ≤ n ∧ d = .int .i64 (a : Int) ∧ Hm.anyB (Hm.circRow R) n 0 = Hm.anyB (Hm.circRow R) (n - a) a) (fun d => n - (intOf d).toNat)
  case atStart => exact ⟨0, Nat.zero_le _, rfl, rfl⟩
  case round =>
    obtain ⟨a, ha, rfl, hq⟩ := hrel
    have HQ := hide hq
    clear hq
    by_cases hlt : a < n
    · have HY := hide (fun h => Hm.anyB_yes (p := Hm.circRow R) hlt h)
      have HN := hide (fun h => Hm.anyB_no (p := Hm.circRow R) hlt h)
      have HG := hide (show Hm.circRow R a = Hm.anyB (Hm.circD R a) a 0 from rfl)
      have ha' : (a : Int) < 8 := by omega
      go_wp2_with fail
      go_loop [4] (fun d => ∃ m : Nat, m ≤ a ∧ d = .int .i64 (m : Int) ∧ Hm.anyB (Hm.circD R a) a 0 = Hm.anyB (Hm.circD R a) (a - m) m) (fun d => a - (intOf d).toNat)
      case atStart => exact ⟨0, Nat.zero_le _, rfl, rfl⟩
      case round =>
        obtain ⟨m, hm, rfl, hq⟩ := hrel
        have HP := hide hq
        clear hq
        by_cases hlm : m < a
        · have hb1 := hl.bel a m (by omega) (by omega)
          have hb2 := hl.bel m a (by omega) (by omega)
          have hm' : (m : Int) < 8 := by omega
          cases h1 : R a m
          · have HS := hide (Hm.anyB_no (p := Hm.circD R a) hlm (by simp [Hm.circD, h1]))
            rw [h1] at hb1
            go_wp2_with fail
            go_round
            case rel => exact ⟨m + 1, by omega, by go_num, by rw [unhide HP, unhide HS]⟩
            case measure => simp [intOf]; omega
          · rw [h1] at hb1
            cases h2 : R m a
            · have HS := hide (Hm.anyB_no (p := Hm.circD R a) hlm (by simp [Hm.circD, h2]))
              rw [h2] at hb2
              go_wp2_with fail
              go_round
              case rel => exact ⟨m + 1, by omega, by go_num, by rw [unhide HP, unhide HS]⟩
              case measure => simp [intOf]; omega
            · have HS := hide (Hm.anyB_yes (p := Hm.circD R a) hlm (by simp [Hm.circD, h1, h2]))
              rw [h2] at hb2
              go_wp2_with fail
              go_ret
              exact ⟨by rw [unhide HF, unhide HQ, unhide HY (by rw [unhide HG, unhide HP, unhide HS])]; rfl, rfl⟩
        · have HS := hide (Hm.anyB_end (p := Hm.circD R a) (n := a) (k := m) (by omega))
          go_wp2_with fail
          go_round
          case rel => exact ⟨a + 1, by omega, by go_num, by rw [unhide HQ, unhide HN (by rw [unhide HG, unhide HP, unhide HS])]⟩
          case measure => simp [intOf]; omega
    · have HS := hide (Hm.anyB_end (p := Hm.circRow R) (n := n) (k := a) (by omega))
      go_wp2_with fail
      go_ret
      exact ⟨by rw [unhide HF, unhide HQ, unhide HS]; rfl, rfl⟩

set_option maxHeartbeats 400000 in
theorem hasJoins_any (w : World) (b o n : Nat) (R : Nat → Nat → Bool) (hn : n ≤ 8) (hl : LatM w b o n R) :
    Calls Try.prog 67 #[.pointer (some ⟨b, o, none⟩)] w fun e w' => e = .returned (.bool (Hm.hasJ R n)) ∧ w' = w := by
  have hc := hl.cnt
  have HF := hide (show Hm.hasJ R n = Hm.allB (Hm.hasRow R n) n 0 from rfl)
  go_enter Try.func67, Try.ntmps67
  go_wp2_with fail
  go_loop [3] (fun d => ∃ a : Nat, a ≤ n ∧ d = .int .i64 (a : Int) ∧ Hm.allB (Hm.hasRow R n) n 0 = Hm.allB (Hm.hasRow R n) (n - a) a) (fun d => n - (intOf d).toNat)
  case atStart => exact ⟨0, Nat.zero_le _, rfl, rfl⟩
  case round =>
    obtain ⟨a, ha, rfl, hq⟩ := hrel
    have HQ := hide hq
    clear hq
    by_cases hlt : a < n
    · have HY := hide (fun h => Hm.allB_yes (p := Hm.hasRow R n) hlt h)
      have HN := hide (fun h => Hm.allB_no (p := Hm.hasRow R n) hlt h)
      have HG := hide (show Hm.hasRow R n a = Hm.allB (Hm.hasD R n a) a 0 from rfl)
      go_wp2_with fail
      go_loop [4] (fun d => ∃ m : Nat, m ≤ a ∧ d = .int .i64 (m : Int) ∧ Hm.allB (Hm.hasD R n a) a 0 = Hm.allB (Hm.hasD R n a) (a - m) m) (fun d => a - (intOf d).toNat)
      case atStart => exact ⟨0, Nat.zero_le _, rfl, rfl⟩
      case round =>
        obtain ⟨m, hm, rfl, hq⟩ := hrel
        have HP := hide hq
        clear hq
        by_cases hlm : m < a
        · have hmn : m < n := by omega
          cases h1 : (Hm.joinI R n a m == -1)
          · have HS := hide (Hm.allB_yes (p := Hm.hasD R n a) hlm (by unfold Hm.hasD; rw [h1]; rfl))
            go_wp2_with fail
            refine (findJoin_any _ _ _ _ _ _ _ hn hl hlt hmn).mono ?_
            rintro e w' ⟨rfl, rfl⟩
            go_wp2_with fail
            go_round
            case rel => exact ⟨m + 1, by omega, by go_num, by rw [unhide HP, unhide HS]⟩
            case measure => simp [intOf]; omega
          · have HS := hide (Hm.allB_no (p := Hm.hasD R n a) hlm (by unfold Hm.hasD; rw [h1]; rfl))
            go_wp2_with fail
            refine (findJoin_any _ _ _ _ _ _ _ hn hl hlt hmn).mono ?_
            rintro e w' ⟨rfl, rfl⟩
            go_wp2_with fail
            go_ret
            exact ⟨by rw [unhide HF, unhide HQ, unhide HN (by rw [unhide HG, unhide HP, unhide HS])]; rfl, rfl⟩
        · have HS := hide (Hm.allB_end (p := Hm.hasD R n a) (n := a) (k := m) (by omega))
          go_wp2_with fail
          go_round
          case rel => exact ⟨a + 1, by omega, by go_num, by rw [unhide HQ, unhide HY (by rw [unhide HG, unhide HP, unhide HS])]⟩
          case measure => simp [intOf]; omega
    · have HS := hide (Hm.allB_end (p := Hm.hasRow R n) (n := n) (k := a) (by omega))
      go_wp2_with fail
      go_ret
      exact ⟨by rw [unhide HF, unhide HQ, unhide HS]; rfl, rfl⟩

end Go.Proofs.Ytfcflnnleadpkaa
