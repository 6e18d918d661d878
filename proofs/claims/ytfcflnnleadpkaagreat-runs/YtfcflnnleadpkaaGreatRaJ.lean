import Derived.Test.YtfcflnnleadpkaaGreatMaJ
import Derived.Test.YtfcflnnleadpkaaGreatReJ
import Derived.Test.YtfcflnnleadpkaaGreatSgJ
namespace Go.Proofs.YtfcflnnleadpkaaGreat
open Go.RowKit

/-- The document's order in memory at the block o: its number, its rows. -/
structure Ord (w : World) (o g cap n : Nat) (rb : Nat → Nat) (R : Nat → Nat → Bool) : Prop where
  cn : w.cell? ⟨o, 0, none⟩ = some (.int .i64 (n : Int))
  cb : w.cell? ⟨o, 1, none⟩ = some (.slice (some ⟨g, 0, none⟩) n cap)
  row : ∀ i, i < n → w.cell? ⟨g, i, none⟩ = some (.slice (some ⟨rb i, 0, none⟩) n n)
  bel : ∀ i j, i < n → j < n → w.cell? ⟨rb i, j, none⟩ = some (.bool (R i j))

set_option maxHeartbeats 400000 in
theorem above_any (w : World) (o g cap n i j k : Nat) (rb : Nat → Nat) (R : Nat → Nat → Bool) (ho : Ord w o g cap n rb R) (hi : i < n) (hj : j < n) (hk : k < n) :
    Calls Tryz.prog 110 #[.pointer (some ⟨o, 0, none⟩), .int .i64 (i : Int), .int .i64 (j : Int), .int .i64 (k : Int)] w fun e w' => e = .returned (.bool (Hm.both R i j k)) ∧ w' = w := by
  have hb := ho.cb
  have r1 := ho.row i hi
  have r2 := ho.row j hj
  have b1 := ho.bel i k hi hk
  have b2 := ho.bel j k hj hk
  have HF := hide (show Hm.both R i j k = (R i k && R j k) from rfl)
  cases h1 : R i k
  · rw [h1] at b1
    go_enter Tryz.func110, Tryz.ntmps110
    go_wp2_with fail
    go_ret
    exact ⟨by rw [unhide HF, h1]; rfl, rfl⟩
  · rw [h1] at b1
    go_enter Tryz.func110, Tryz.ntmps110
    go_wp2_with fail
    go_ret
    exact ⟨by rw [unhide HF, h1]; rfl, rfl⟩

set_option maxHeartbeats 400000 in
theorem least_any (w : World) (o g cap n i j k : Nat) (rb : Nat → Nat) (R : Nat → Nat → Bool) (hn : n ≤ 8) (ho : Ord w o g cap n rb R) (hi : i < n) (hj : j < n) (hk : k < n) :
    Calls Tryz.prog 90 #[.pointer (some ⟨o, 0, none⟩), .int .i64 (i : Int), .int .i64 (j : Int), .int .i64 (k : Int)] w fun e w' => e = .returned (.bool (Hm.lub R n i j k)) ∧ w' = w := by
  have hc := ho.cn
  have hb := ho.cb
  have r1 := ho.row k hk
  cases h1 : Hm.both R i j k
  · have HF := hide (show Hm.lub R n i j k = false by simp [Hm.lub, h1])
    go_enter Tryz.func90, Tryz.ntmps90
    go_wp2_with fail
    refine (above_any _ _ _ _ _ _ _ _ _ _ ho hi hj hk).mono ?_
    rintro e w' ⟨rfl, rfl⟩
    go_wp2_with fail
    go_ret
    exact ⟨by rw [unhide HF]; rfl, rfl⟩
  · have HF := hide (show Hm.lub R n i j k = Hm.allB (Hm.lubD R i j k) n 0 by simp [Hm.lub, h1])
    go_enter Tryz.func90, Tryz.ntmps90
    go_wp2_with fail
    refine (above_any _ _ _ _ _ _ _ _ _ _ ho hi hj hk).mono ?_
    rintro e w' ⟨rfl, rfl⟩
    go_wp2_with fail
    go_loop [9] (fun d => ∃ m : Nat, m ≤ n ∧ d = .int .i64 (m : Int) ∧ Hm.allB (Hm.lubD R i j k) n 0 = Hm.allB (Hm.lubD R i j k) (n - m) m) (fun d => n - (intOf d).toNat)
    case atStart => exact ⟨0, Nat.zero_le _, rfl, rfl⟩
    case round =>
      obtain ⟨m, hm, rfl, hq⟩ := hrel
      have HQ := hide hq
      clear hq
      by_cases hlt : m < n
      · have b1 := ho.bel k m hk hlt
        cases h2 : Hm.both R i j m
        · have HS := hide (Hm.allB_yes (p := Hm.lubD R i j k) hlt (by simp [Hm.lubD, h2]))
          go_wp2_with fail
          refine (above_any _ _ _ _ _ _ _ _ _ _ ho hi hj hlt).mono ?_
          rintro e w' ⟨rfl, rfl⟩
          go_wp2_with fail
          go_round
          case rel => exact ⟨m + 1, by omega, by go_num, by rw [unhide HQ, unhide HS]⟩
          case measure => simp [intOf]; omega
        · cases h3 : R k m
          · have HS := hide (Hm.allB_no (p := Hm.lubD R i j k) hlt (by simp [Hm.lubD, h2, h3]))
            rw [h3] at b1
            go_wp2_with fail
            refine (above_any _ _ _ _ _ _ _ _ _ _ ho hi hj hlt).mono ?_
            rintro e w' ⟨rfl, rfl⟩
            go_wp2_with fail
            go_ret
            exact ⟨by rw [unhide HF, unhide HQ, unhide HS]; rfl, rfl⟩
          · have HS := hide (Hm.allB_yes (p := Hm.lubD R i j k) hlt (by simp [Hm.lubD, h3]))
            rw [h3] at b1
            go_wp2_with fail
            refine (above_any _ _ _ _ _ _ _ _ _ _ ho hi hj hlt).mono ?_
            rintro e w' ⟨rfl, rfl⟩
            go_wp2_with fail
            go_round
            case rel => exact ⟨m + 1, by omega, by go_num, by rw [unhide HQ, unhide HS]⟩
            case measure => simp [intOf]; omega
      · have HS := hide (Hm.allB_end (p := Hm.lubD R i j k) (n := n) (k := m) (by omega))
        go_wp2_with fail
        go_ret
        exact ⟨by rw [unhide HF, unhide HQ, unhide HS]; rfl, rfl⟩

set_option maxHeartbeats 400000 in
theorem Join_any (w : World) (o g cap n i j : Nat) (rb : Nat → Nat) (R : Nat → Nat → Bool) (hn : n ≤ 8) (ho : Ord w o g cap n rb R) (hi : i < n) (hj : j < n) :
    Calls Tryz.prog 59 #[.pointer (some ⟨o, 0, none⟩), .int .i64 (i : Int), .int .i64 (j : Int)] w fun e w' => e = .returned (.int .i64 (Hm.joinI R n i j)) ∧ w' = w := by
  have hc := ho.cn
  have HF := hide (show Hm.joinI R n i j = Hm.firstB (Hm.lub R n i j) n 0 from rfl)
  go_enter Tryz.func59, Tryz.ntmps59
  go_wp2_with fail
  go_loop [7] (fun d => ∃ m : Nat, m ≤ n ∧ d = .int .i64 (m : Int) ∧ Hm.firstB (Hm.lub R n i j) n 0 = Hm.firstB (Hm.lub R n i j) (n - m) m) (fun d => n - (intOf d).toNat)
  case atStart => exact ⟨0, Nat.zero_le _, rfl, rfl⟩
  case round =>
    obtain ⟨m, hm, rfl, hq⟩ := hrel
    have HQ := hide hq
    clear hq
    by_cases hlt : m < n
    · cases h2 : Hm.lub R n i j m
      · have HS := hide (Hm.firstB_no (p := Hm.lub R n i j) hlt h2)
        go_wp2_with fail
        refine (least_any _ _ _ _ _ _ _ _ _ _ hn ho hi hj hlt).mono ?_
        rintro e w' ⟨rfl, rfl⟩
        go_wp2_with fail
        go_round
        case rel => exact ⟨m + 1, by omega, by go_num, by rw [unhide HQ, unhide HS]⟩
        case measure => simp [intOf]; omega
      · have HS := hide (Hm.firstB_yes (p := Hm.lub R n i j) hlt h2)
        go_wp2_with fail
        refine (least_any _ _ _ _ _ _ _ _ _ _ hn ho hi hj hlt).mono ?_
        rintro e w' ⟨rfl, rfl⟩
        go_wp2_with fail
        go_ret
        exact ⟨by rw [unhide HF, unhide HQ, unhide HS]; rfl, rfl⟩
    · have HS := hide (Hm.firstB_end (p := Hm.lub R n i j) (n := n) (k := m) (by omega))
      go_wp2_with fail
      go_ret
      exact ⟨by rw [unhide HF, unhide HQ, unhide HS]; rfl, rfl⟩

set_option maxHeartbeats 400000 in
theorem greatest_any (w : World) (o g cap n i j k : Nat) (rb : Nat → Nat) (R : Nat → Nat → Bool) (hn : n ≤ 8) (ho : Ord w o g cap n rb R) (hi : i < n) (hj : j < n) (hk : k < n) :
    Calls Tryz.prog 91 #[.pointer (some ⟨o, 0, none⟩), .int .i64 (i : Int), .int .i64 (j : Int), .int .i64 (k : Int)] w fun e w' => e = .returned (.bool (Hm.glb R n i j k)) ∧ w' = w := by
  have hc := ho.cn
  have hb := ho.cb
  have r1 := ho.row k hk
  have b1 := ho.bel k i hk hi
  have b2 := ho.bel k j hk hj
  cases h1 : R k i
  · have HF := hide (show Hm.glb R n i j k = false by simp [Hm.glb, h1])
    rw [h1] at b1
    go_enter Tryz.func91, Tryz.ntmps91
    go_wp2_with fail
    go_ret
    exact ⟨by rw [unhide HF]; rfl, rfl⟩
  rw [h1] at b1
  cases h2 : R k j
  · have HF := hide (show Hm.glb R n i j k = false by simp [Hm.glb, h2])
    rw [h2] at b2
    go_enter Tryz.func91, Tryz.ntmps91
    go_wp2_with fail
    go_ret
    exact ⟨by rw [unhide HF]; rfl, rfl⟩
  rw [h2] at b2
  have HF := hide (show Hm.glb R n i j k = Hm.allB (Hm.glbD R i j k) n 0 by simp [Hm.glb, h1, h2])
  go_enter Tryz.func91, Tryz.ntmps91
  go_wp2_with fail
  clear b1 b2 h1 h2
  go_loop [9] (fun d => ∃ m : Nat, m ≤ n ∧ d = .int .i64 (m : Int) ∧ Hm.allB (Hm.glbD R i j k) n 0 = Hm.allB (Hm.glbD R i j k) (n - m) m) (fun d => n - (intOf d).toNat)
  case atStart => exact ⟨0, Nat.zero_le _, rfl, rfl⟩
  case round =>
    obtain ⟨m, hm, rfl, hq⟩ := hrel
    have HQ := hide hq
    clear hq
    by_cases hlt : m < n
    · have r2 := ho.row m hlt
      have b1 := ho.bel m i hlt hi
      have b2 := ho.bel m j hlt hj
      have b3 := ho.bel m k hlt hk
      cases h1 : R m i
      · have HS := hide (Hm.allB_yes (p := Hm.glbD R i j k) hlt (by simp [Hm.glbD, h1]))
        rw [h1] at b1
        go_wp2_with fail
        go_round
        case rel => exact ⟨m + 1, by omega, by go_num, by rw [unhide HQ, unhide HS]⟩
        case measure => simp [intOf]; omega
      · rw [h1] at b1
        cases h2 : R m j
        · have HS := hide (Hm.allB_yes (p := Hm.glbD R i j k) hlt (by simp [Hm.glbD, h2]))
          rw [h2] at b2
          go_wp2_with fail
          go_round
          case rel => exact ⟨m + 1, by omega, by go_num, by rw [unhide HQ, unhide HS]⟩
          case measure => simp [intOf]; omega
        · rw [h2] at b2
          cases h3 : R m k
          · have HS := hide (Hm.allB_no (p := Hm.glbD R i j k) hlt (by simp [Hm.glbD, h1, h2, h3]))
            rw [h3] at b3
            go_wp2_with fail
            go_ret
            exact ⟨by rw [unhide HF, unhide HQ, unhide HS]; rfl, rfl⟩
          · have HS := hide (Hm.allB_yes (p := Hm.glbD R i j k) hlt (by simp [Hm.glbD, h3]))
            rw [h3] at b3
            go_wp2_with fail
            go_round
            case rel => exact ⟨m + 1, by omega, by go_num, by rw [unhide HQ, unhide HS]⟩
            case measure => simp [intOf]; omega
    · have HS := hide (Hm.allB_end (p := Hm.glbD R i j k) (n := n) (k := m) (by omega))
      go_wp2_with fail
      go_ret
      exact ⟨by rw [unhide HF, unhide HQ, unhide HS]; rfl, rfl⟩

set_option maxHeartbeats 400000 in
theorem meets_any (w : World) (o g cap n i j : Nat) (rb : Nat → Nat) (R : Nat → Nat → Bool) (hn : n ≤ 8) (ho : Ord w o g cap n rb R) (hi : i < n) (hj : j < n) :
    Calls Tryz.prog 60 #[.pointer (some ⟨o, 0, none⟩), .int .i64 (i : Int), .int .i64 (j : Int)] w fun e w' => e = .returned (.bool (Hm.meets R n i j)) ∧ w' = w := by
  have hc := ho.cn
  have HF := hide (show Hm.meets R n i j = Hm.anyB (Hm.glb R n i j) n 0 from rfl)
  go_enter Tryz.func60, Tryz.ntmps60
  go_wp2_with fail
  go_loop [7] (fun d => ∃ m : Nat, m ≤ n ∧ d = .int .i64 (m : Int) ∧ Hm.anyB (Hm.glb R n i j) n 0 = Hm.anyB (Hm.glb R n i j) (n - m) m) (fun d => n - (intOf d).toNat)
  case atStart => exact ⟨0, Nat.zero_le _, rfl, rfl⟩
  case round =>
    obtain ⟨m, hm, rfl, hq⟩ := hrel
    have HQ := hide hq
    clear hq
    by_cases hlt : m < n
    · cases h2 : Hm.glb R n i j m
      · have HS := hide (Hm.anyB_no (p := Hm.glb R n i j) hlt h2)
        go_wp2_with fail
        refine (greatest_any _ _ _ _ _ _ _ _ _ _ hn ho hi hj hlt).mono ?_
        rintro e w' ⟨rfl, rfl⟩
        go_wp2_with fail
        go_round
        case rel => exact ⟨m + 1, by omega, by go_num, by rw [unhide HQ, unhide HS]⟩
        case measure => simp [intOf]; omega
      · have HS := hide (Hm.anyB_yes (p := Hm.glb R n i j) hlt h2)
        go_wp2_with fail
        refine (greatest_any _ _ _ _ _ _ _ _ _ _ hn ho hi hj hlt).mono ?_
        rintro e w' ⟨rfl, rfl⟩
        go_wp2_with fail
        go_ret
        exact ⟨by rw [unhide HF, unhide HQ, unhide HS]; rfl, rfl⟩
    · have HS := hide (Hm.anyB_end (p := Hm.glb R n i j) (n := n) (k := m) (by omega))
      go_wp2_with fail
      go_ret
      exact ⟨by rw [unhide HF, unhide HQ, unhide HS]; rfl, rfl⟩

end Go.Proofs.YtfcflnnleadpkaaGreat

namespace Go.Proofs.YtfcflnnleadpkaaGreat
open Go.RowKit

theorem wellRow_circle {R : Nat → Nat → Bool} {n a m : Nat} (h0 : ((a : Int) != (m : Int)) = true) (h1 : R a m = true) (h2 : R m a = true) : Hm.wellRow R n a m = false := by
  have : a ≠ m := by intro e; subst e; simp at h0
  simp [Hm.wellRow, h1, h2, this]
theorem wellRow_join {R : Nat → Nat → Bool} {n a m : Nat} (h3 : decide (Hm.joinI R n a m < 0) = true) : Hm.wellRow R n a m = false := by
  unfold Hm.wellRow; rw [h3]; simp
theorem wellRow_meet {R : Nat → Nat → Bool} {n a m : Nat} (h4 : Hm.meets R n a m = false) : Hm.wellRow R n a m = false := by
  unfold Hm.wellRow; rw [h4]; simp
theorem wellRow_ok0 {R : Nat → Nat → Bool} {n a m : Nat} (h0 : ((a : Int) != (m : Int)) = false) (h3 : decide (Hm.joinI R n a m < 0) = false) (h4 : Hm.meets R n a m = true) : Hm.wellRow R n a m = true := by
  have h0' : (a : Int) = (m : Int) := by simpa using h0
  have : a = m := by omega
  unfold Hm.wellRow; rw [h3, h4]; simp [this]
theorem wellRow_ok1 {R : Nat → Nat → Bool} {n a m : Nat} (h1 : R a m = false) (h3 : decide (Hm.joinI R n a m < 0) = false) (h4 : Hm.meets R n a m = true) : Hm.wellRow R n a m = true := by
  unfold Hm.wellRow; rw [h3, h4]; simp [h1]
theorem wellRow_ok2 {R : Nat → Nat → Bool} {n a m : Nat} (h1 : R m a = false) (h3 : decide (Hm.joinI R n a m < 0) = false) (h4 : Hm.meets R n a m = true) : Hm.wellRow R n a m = true := by
  unfold Hm.wellRow; rw [h3, h4]; simp [h1]

set_option maxHeartbeats 1000000 in
theorem well_any (w : World) (o g cap n : Nat) (rb : Nat → Nat) (R : Nat → Nat → Bool) (hn : n ≤ 8) (ho : Ord w o g cap n rb R) :
    Calls Tryz.prog 26 #[.pointer (some ⟨o, 0, none⟩)] w fun e w' => e = .returned (.bool (Hm.wellR R n)) ∧ w' = w := by
  have hc := ho.cn
  have hb := ho.cb
  have HF := hide (show Hm.wellR R n = Hm.allB (Hm.wellLine R n) n 0 from rfl)
  go_enter Tryz.func26, Tryz.ntmps26
  go_wp2_with fail
  go_loop [3] (fun d => ∃ a : Nat, a ≤ n ∧ d = .int .i64 (a : Int) ∧ Hm.allB (Hm.wellLine R n) n 0 = Hm.allB (Hm.wellLine R n) (n - a) a) (fun d => n - (intOf d).toNat)
  case atStart => exact ⟨0, Nat.zero_le _, rfl, rfl⟩
  case round =>
    obtain ⟨a, ha, rfl, hq⟩ := hrel
    have HQ := hide hq
    clear hq
    by_cases hlt : a < n
    · have HY := hide (fun h => Hm.allB_yes (p := Hm.wellLine R n) hlt h)
      have HN := hide (fun h => Hm.allB_no (p := Hm.wellLine R n) hlt h)
      have HG := hide (show Hm.wellLine R n a = Hm.allB (Hm.wellRow R n a) n 0 from rfl)
      have r1 := ho.row a hlt
      go_wp2_with fail
      go_loop [4] (fun d => ∃ m : Nat, m ≤ n ∧ d = .int .i64 (m : Int) ∧ Hm.allB (Hm.wellRow R n a) n 0 = Hm.allB (Hm.wellRow R n a) (n - m) m) (fun d => n - (intOf d).toNat)
      case atStart => exact ⟨0, Nat.zero_le _, rfl, rfl⟩
      case round =>
        obtain ⟨m, hm, rfl, hq⟩ := hrel
        have HP := hide hq
        clear hq
        by_cases hlm : m < n
        · have r2 := ho.row m hlm
          have b1 := ho.bel a m hlt hlm
          have b2 := ho.bel m a hlm hlt
          have HSY := hide (fun h => Hm.allB_yes (p := Hm.wellRow R n a) hlm h)
          have HSN := hide (fun h => Hm.allB_no (p := Hm.wellRow R n a) hlm h)
          cases h0 : ((a : Int) != (m : Int))
          · cases h3 : decide (Hm.joinI R n a m < 0)
            · cases h4 : Hm.meets R n a m
              · go_wp2_with fail
                refine (Join_any _ _ _ _ _ _ _ _ _ hn ho hlt hlm).mono ?_
                rintro e w' ⟨rfl, rfl⟩
                go_wp2_with fail
                refine (meets_any _ _ _ _ _ _ _ _ _ hn ho hlt hlm).mono ?_
                rintro e w' ⟨rfl, rfl⟩
                go_wp2_with fail
                go_ret
                exact ⟨by rw [unhide HF, unhide HQ, unhide HN (by rw [unhide HG, unhide HP, unhide HSN (wellRow_meet h4)])]; rfl, rfl⟩
              · have hw := wellRow_ok0 h0 h3 h4
                go_wp2_with fail
                refine (Join_any _ _ _ _ _ _ _ _ _ hn ho hlt hlm).mono ?_
                rintro e w' ⟨rfl, rfl⟩
                go_wp2_with fail
                refine (meets_any _ _ _ _ _ _ _ _ _ hn ho hlt hlm).mono ?_
                rintro e w' ⟨rfl, rfl⟩
                go_wp2_with fail
                go_round
                case rel => exact ⟨m + 1, by omega, by go_num, by rw [unhide HP, unhide HSY hw]⟩
                case measure => simp [intOf]; omega
            · go_wp2_with fail
              refine (Join_any _ _ _ _ _ _ _ _ _ hn ho hlt hlm).mono ?_
              rintro e w' ⟨rfl, rfl⟩
              go_wp2_with fail
              go_ret
              exact ⟨by rw [unhide HF, unhide HQ, unhide HN (by rw [unhide HG, unhide HP, unhide HSN (wellRow_join h3)])]; rfl, rfl⟩
          · cases h1 : R a m
            · rw [h1] at b1
              cases h3 : decide (Hm.joinI R n a m < 0)
              · cases h4 : Hm.meets R n a m
                · go_wp2_with fail
                  refine (Join_any _ _ _ _ _ _ _ _ _ hn ho hlt hlm).mono ?_
                  rintro e w' ⟨rfl, rfl⟩
                  go_wp2_with fail
                  refine (meets_any _ _ _ _ _ _ _ _ _ hn ho hlt hlm).mono ?_
                  rintro e w' ⟨rfl, rfl⟩
                  go_wp2_with fail
                  go_ret
                  exact ⟨by rw [unhide HF, unhide HQ, unhide HN (by rw [unhide HG, unhide HP, unhide HSN (wellRow_meet h4)])]; rfl, rfl⟩
                · have hw := wellRow_ok1 h1 h3 h4
                  go_wp2_with fail
                  refine (Join_any _ _ _ _ _ _ _ _ _ hn ho hlt hlm).mono ?_
                  rintro e w' ⟨rfl, rfl⟩
                  go_wp2_with fail
                  refine (meets_any _ _ _ _ _ _ _ _ _ hn ho hlt hlm).mono ?_
                  rintro e w' ⟨rfl, rfl⟩
                  go_wp2_with fail
                  go_round
                  case rel => exact ⟨m + 1, by omega, by go_num, by rw [unhide HP, unhide HSY hw]⟩
                  case measure => simp [intOf]; omega
              · go_wp2_with fail
                refine (Join_any _ _ _ _ _ _ _ _ _ hn ho hlt hlm).mono ?_
                rintro e w' ⟨rfl, rfl⟩
                go_wp2_with fail
                go_ret
                exact ⟨by rw [unhide HF, unhide HQ, unhide HN (by rw [unhide HG, unhide HP, unhide HSN (wellRow_join h3)])]; rfl, rfl⟩
            · rw [h1] at b1
              cases h2 : R m a
              · rw [h2] at b2
                cases h3 : decide (Hm.joinI R n a m < 0)
                · cases h4 : Hm.meets R n a m
                  · go_wp2_with fail
                    refine (Join_any _ _ _ _ _ _ _ _ _ hn ho hlt hlm).mono ?_
                    rintro e w' ⟨rfl, rfl⟩
                    go_wp2_with fail
                    refine (meets_any _ _ _ _ _ _ _ _ _ hn ho hlt hlm).mono ?_
                    rintro e w' ⟨rfl, rfl⟩
                    go_wp2_with fail
                    go_ret
                    exact ⟨by rw [unhide HF, unhide HQ, unhide HN (by rw [unhide HG, unhide HP, unhide HSN (wellRow_meet h4)])]; rfl, rfl⟩
                  · have hw := wellRow_ok2 h2 h3 h4
                    go_wp2_with fail
                    refine (Join_any _ _ _ _ _ _ _ _ _ hn ho hlt hlm).mono ?_
                    rintro e w' ⟨rfl, rfl⟩
                    go_wp2_with fail
                    refine (meets_any _ _ _ _ _ _ _ _ _ hn ho hlt hlm).mono ?_
                    rintro e w' ⟨rfl, rfl⟩
                    go_wp2_with fail
                    go_round
                    case rel => exact ⟨m + 1, by omega, by go_num, by rw [unhide HP, unhide HSY hw]⟩
                    case measure => simp [intOf]; omega
                · go_wp2_with fail
                  refine (Join_any _ _ _ _ _ _ _ _ _ hn ho hlt hlm).mono ?_
                  rintro e w' ⟨rfl, rfl⟩
                  go_wp2_with fail
                  go_ret
                  exact ⟨by rw [unhide HF, unhide HQ, unhide HN (by rw [unhide HG, unhide HP, unhide HSN (wellRow_join h3)])]; rfl, rfl⟩
              · rw [h2] at b2
                go_wp2_with fail
                go_ret
                exact ⟨by rw [unhide HF, unhide HQ, unhide HN (by rw [unhide HG, unhide HP, unhide HSN (wellRow_circle h0 h1 h2)])]; rfl, rfl⟩
        · have HS := hide (Hm.allB_end (p := Hm.wellRow R n a) (n := n) (k := m) (by omega))
          go_wp2_with fail
          go_round
          case rel => exact ⟨a + 1, by omega, by go_num, by rw [unhide HQ, unhide HY (by rw [unhide HG, unhide HP, unhide HS])]⟩
          case measure => simp [intOf]; omega
    · have HS := hide (Hm.allB_end (p := Hm.wellLine R n) (n := n) (k := a) (by omega))
      go_wp2_with fail
      go_ret
      exact ⟨by rw [unhide HF, unhide HQ, unhide HS]; rfl, rfl⟩

end Go.Proofs.YtfcflnnleadpkaaGreat

namespace Go.Proofs.YtfcflnnleadpkaaGreat
open Go.RowKit

/-- What the document's Read answers, and what it leaves in memory. -/
def ReadAns (s : ByteArray) (B : Nat) (e : Ending) (w' : World) : Prop :=
  ∃ (a p : Int) (n : Nat), ReadPost s a p n ∧
    ((a ≠ 0 ∧ e = .returned (.tuple #[.pointer none, .int .i64 a, .int .i64 p])) ∨
     (a = 0 ∧ p = 0 ∧ 1 ≤ n ∧ n ≤ 8 ∧ ∃ o g cap rb, B ≤ o ∧ Ord w' o g cap n rb (cl s n) ∧ e = .returned (.tuple #[.pointer (some ⟨o, 0, none⟩), .int .i64 0, .int .i64 0])))

theorem Grid.ord {w : World} {B g cap n : Nat} {rb : Nat → Nat} {F : Nat → Nat → Bool} (h : Grid w B g n rb F) (t : TypeId) :
    Ord (w.alloc (.cells #[.int .i64 n, .slice (some ⟨g, 0, none⟩) n cap] t)) w.heap.size g cap n rb F := by
  have hold : ∀ a v, w.cell? a = some v → (w.alloc (.cells #[.int .i64 n, .slice (some ⟨g, 0, none⟩) n cap] t)).cell? a = some v := by
    intro a v hv
    rw [World.cell?_of_block (w := w) (Below.heap_alloc w _ _ (World.block_lt_of_cell? w a hv))]
    exact hv
  exact ⟨by simp, by simp, fun i hi => hold _ _ (h.out i hi), fun i j hi hj => hold _ _ (h.cell hi hj)⟩

set_option maxHeartbeats 1000000 in
theorem Read_any (w : World) (s : ByteArray) :
    Calls Tryz.prog 14 #[.string s] w fun e w' => ReadAns s w.heap.size e w' ∧ Below w.heap.size w w' := by
  by_cases h : s.size ≤ 65
  · have hgt : decide ((65 : Int) < (s.size : Int)) = false := by simp; omega
    have HW : Hid (∀ w, Calls Tryz.prog 24 #[.string s] w fun e w' => WrittenPost s e ∧ w' = w) := by
      intro w
      by_cases hf : ∃ n, FirstOk s n
      · obtain ⟨n, hf⟩ := hf
        exact written_ok w s n hf h
      · exact written_bad0 w s (fun n hn => hf ⟨n, hn⟩)
    go_enter Tryz.func14, Tryz.ntmps14
    go_wp2_with fail
    refine (unhide HW _).mono ?_
    rintro e w' ⟨hp, rfl⟩
    rcases hp with ⟨k, x, hk, rfl⟩ | ⟨n, hgd, rfl⟩
    · have HK := hide hk
      clear hk
      go_wp2_with fail
      go_ret3
      exact ⟨⟨2, k, 0, Or.inr (Or.inl ⟨h, k, unhide HK, rfl, rfl, rfl⟩), Or.inl ⟨by omega, rfl⟩⟩, Below.refl _ _⟩
    · have HGD := hide hgd
      have h1 : 1 ≤ n := hgd.1.2.2.1
      have h8 : n ≤ 8 := hgd.1.2.2.2
      clear hgd
      go_wp2_with fail
      refine (closed_any _ _ _ h1 h8 h (unhide HGD)).mono ?_
      rintro e w1 ⟨⟨g, cap, rb, rfl, hgr⟩, hb⟩
      have HGR := hide hgr
      clear hgr
      have HO := hide (fun t => (unhide HGR).ord (cap := cap) t)
      go_wp2_with fail
      refine (well_any _ _ _ _ _ _ _ h8 (unhide HO _)).mono ?_
      rintro e w' ⟨rfl, rfl⟩
      cases hw : Hm.wellR (cl s n) n
      · have HP : Hid (ReadPost s 3 0 0) := Or.inr (Or.inr (Or.inl ⟨h, n, unhide HGD, hw, rfl, rfl, rfl⟩))
        go_wp2_with fail
        go_ret3
        exact ⟨⟨3, 0, 0, unhide HP, Or.inl ⟨by omega, rfl⟩⟩, hb.trans ((Below.refl _ _).alloc hb.size _)⟩
      · have HP : Hid (ReadPost s 0 0 n) := Or.inr (Or.inr (Or.inr ⟨h, unhide HGD, hw, rfl, rfl⟩))
        go_wp2_with fail
        go_ret3
        exact ⟨⟨0, 0, n, unhide HP, Or.inr ⟨rfl, rfl, h1, h8, w1.heap.size, g, cap, rb, hb.size, unhide HO _, rfl⟩⟩, hb.trans ((Below.refl _ _).alloc hb.size _)⟩
  · have hgt : (65 : Int) < (s.size : Int) := by omega
    have HP : Hid (ReadPost s 1 0 0) := Or.inl ⟨by omega, rfl, rfl, rfl⟩
    go_enter Tryz.func14, Tryz.ntmps14
    go_wp2_with fail
    go_ret3
    exact ⟨⟨1, 0, 0, unhide HP, Or.inl ⟨by omega, rfl⟩⟩, Below.refl _ _⟩

end Go.Proofs.YtfcflnnleadpkaaGreat

namespace Go.Proofs.YtfcflnnleadpkaaGreat
open Go.RowKit

/-- The procedures: where the reader stands, whether it is stuck, the calls, the places of the procedures' statements. -/
def scPr (c : Nat → Int) (nv N sz f : Nat) : Nat → Nat → List Nat → List Nat → Nat × Bool × List Nat × List Nat
  | 0, i, C, P => (i, true, C, P)
  | g + 1, i, C, P =>
    if i < sz then
      (if c i = 59 ∧ P.length < 4 then
        (if (scS c nv N f (i + 1) C).2.1 = true then ((scS c nv N f (i + 1) C).1, true, (scS c nv N f (i + 1) C).2.2, P ++ [i + 1])
         else scPr c nv N sz f g (scS c nv N f (i + 1) C).1 (scS c nv N f (i + 1) C).2.2 (P ++ [i + 1]))
       else (i, true, C, P))
    else (i, false, C, P)
/-- The whole text. -/
def parseAll (c : Nat → Int) (N sz : Nat) : Nat × Bool × List Nat × List Nat :=
  if c (nvOf c N) = 58 then
    (if (scS c (nvOf c N) N (sz + 1) (nvOf c N + 1) []).2.1 = true then ((scS c (nvOf c N) N (sz + 1) (nvOf c N + 1) []).1, true, (scS c (nvOf c N) N (sz + 1) (nvOf c N + 1) []).2.2, [])
     else scPr c (nvOf c N) N sz (sz + 1) 5 (scS c (nvOf c N) N (sz + 1) (nvOf c N + 1) []).1 (scS c (nvOf c N) N (sz + 1) (nvOf c N + 1) []).2.2 [])
  else (nvOf c N, true, [], [])
/-- The first call of a procedure that is not there. -/
def badCall (c : Nat → Int) (n : Nat) : List Nat → Option Nat
  | [] => none
  | k :: r => if (n : Int) ≤ dgt (c k) 4 then some k else badCall c n r
def prA (s : ByteArray) (N : Nat) : Nat × Bool × List Nat × List Nat := parseAll (bt s) N s.size
def prC (s : ByteArray) (N : Nat) : Option Nat := badCall (bt s) (prA s N).2.2.2.length (prA s N).2.2.1
/-- The error, the place. -/
def prE (s : ByteArray) (N : Nat) : Int := if 300 < s.size then 1 else if (prA s N).2.1 = true then 4 else if (prC s N).isSome = true then 5 else 0
def prP (s : ByteArray) (N : Nat) : Int := if 300 < s.size then 0 else if (prA s N).2.1 = true then ((prA s N).1 : Int) else match prC s N with | some k => (k : Int) | none => 0
def prNv (s : ByteArray) (N : Nat) : Nat := nvOf (bt s) N
def prPs (s : ByteArray) (N : Nat) : List Nat := (prA s N).2.2.2

/-- The cells of a Prog. -/
def pgC (o : Value) (s : ByteArray) (main : Nat) (pv fl : Value) : Array Value := #[o, .string s, .int .i64 (main : Int), pv, fl]
/-- A Prog being read, beside its Scan. -/
structure PI (w0 w : World) (cb pb : Nat) (o : Value) (s : ByteArray) (i : Nat) (bad : Bool) (N nv : Nat) (C : List Nat) (v : Value) (main : Nat) (P : List Nat) (pv fl : Value) : Prop where
  sc : ScnC w (w0.heap.size + 2) cb s i bad N nv C v
  pr : w.heap[pb]? = some (.cells (pgC o s main pv fl) 79 (0, 0))
  pown : w.ownsRow (w0.heap.size + 2) 3 1 pv P.length (cells P)
  fown : w.ownsRow (w0.heap.size + 2) 3 1 fl nv (fixL (bt s) N nv)
  s1 : v.ownBlock = none ∨ v.ownBlock ≠ pv.ownBlock
  s2 : v.ownBlock = none ∨ v.ownBlock ≠ fl.ownBlock
  s3 : pv.ownBlock = none ∨ pv.ownBlock ≠ fl.ownBlock
  bel : Below w0.heap.size w0 w
  e1 : cb = w0.heap.size
  e2 : pb = w0.heap.size + 1

variable {w0 w w' w'' : World} {cb pb : Nat} {o : Value} {s : ByteArray} {i : Nat} {bad : Bool} {N nv : Nat} {C : List Nat} {v : Value} {main : Nat} {P : List Nat} {pv fl : Value}

theorem below_drewN2 {B : Nat} {a w : World} (h : Below B a w) (q : Nat) : Below B a (w.drewN q) := ⟨h.os, h.tape, h.output, h.size, h.block⟩
theorem ownsRow_keep {w w' : World} {B n : Nat} {e : TypeId} {l : Value} {xs : List Value} (h : w.ownsRow B e 1 l n xs) (hb : ∀ g, l.ownBlock = some g → w'.heap[g]? = w.heap[g]?) : w'.ownsRow B e 1 l n xs := by
  refine ⟨h.1, ?_⟩
  rcases h.2 with hn | ⟨g, cap, cur, rfl, hb0, hg, rest⟩
  · exact Or.inl hn
  · exact Or.inr ⟨g, cap, cur, rfl, hb0, (hb g rfl).trans hg, rest⟩

/-- Behind a statement. -/
theorem PI.stmt {r : Nat × Bool × List Nat} (h : PI w0 w cb pb o s i bad N nv C v main P pv fl) (k : SSt w (w0.heap.size + 2) cb s N nv v r w') : ∃ v', PI w0 w' cb pb o s r.1 r.2.1 N nv r.2.2 v' main P pv fl := by
  obtain ⟨v', k1, k2, k3⟩ := k
  have hcp : pb ≠ cb := by have := h.e1; have := h.e2; omega
  have hpb : pb < w.heap.size := (Array.getElem?_eq_some_iff.1 h.pr).1
  have hvp : some pb ≠ v.ownBlock := fun e => by have := (h.sc.own.lt pb e.symm).1; have := h.e2; omega
  have kb : ∀ (l : Value) (n : Nat) (xs : List Value), w.ownsRow (w0.heap.size + 2) 3 1 l n xs → (v.ownBlock = none ∨ v.ownBlock ≠ l.ownBlock) → ∀ g, l.ownBlock = some g → w'.heap[g]? = w.heap[g]? := by
    intro l n xs hl hne g hg
    have hlt := hl.lt g hg
    refine k2.block g hlt.2 (by have := h.e1; omega) (fun e => ?_)
    rcases hne with hn | hn
    · rw [hn] at e; cases e
    · exact hn (by rw [← e, hg])
  have sep : ∀ (l : Value) (n : Nat) (xs : List Value), w.ownsRow (w0.heap.size + 2) 3 1 l n xs → (v.ownBlock = none ∨ v.ownBlock ≠ l.ownBlock) → (v'.ownBlock = none ∨ v'.ownBlock ≠ l.ownBlock) := by
    intro l n xs hl hne
    rcases k3 with e | e
    · rw [e]; exact hne
    · cases ev : v'.ownBlock with
      | none => exact Or.inl rfl
      | some g =>
        right
        intro e'
        have h1 := e g ev
        have h2 := (hl.lt g e'.symm).2
        omega
  exact ⟨v', k1, (k2.block pb hpb hcp hvp).trans h.pr, ownsRow_keep h.pown (kb pv _ _ h.pown h.s1), ownsRow_keep h.fown (kb fl _ _ h.fown h.s2), sep pv _ _ h.pown h.s1, sep fl _ _ h.fown h.s2, h.s3,
    h.bel.trans (k2.below (by have := h.bel.size; omega) (by have := h.e1; omega) (fun g hg => by have := (h.sc.own.lt g hg).1; omega)), h.e1, h.e2⟩
theorem PI.c0 (h : PI w0 w cb pb o s i bad N nv C v main P pv fl) : w.cell? ⟨pb, 0, none⟩ = some o := by rw [cell_of_row w pb 0 _ _ _ h.pr]; rfl
theorem PI.c3 (h : PI w0 w cb pb o s i bad N nv C v main P pv fl) : w.cell? ⟨pb, 3, none⟩ = some pv := by rw [cell_of_row w pb 3 _ _ _ h.pr]; rfl
theorem PI.fz (h : PI w0 w cb pb o s i bad N nv C v main P pv fl) (j : Nat) : w.frozen? ⟨pb, j, none⟩ = false := frozen_of_row w pb j _ _ h.pr
/-- Behind a turn of the Scan alone. -/
theorem PI.scan {r : Nat × Bool} (h : PI w0 w cb pb o s i bad N nv C v main P pv fl) (k : ScTo w cb s N nv v r w') : PI w0 w' cb pb o s r.1 r.2 N nv C v main P pv fl := by
  have h1 := k.sst h.sc
  obtain ⟨v', h2⟩ := h.stmt h1
  have e : v' = v := by
    have a1 := h2.sc.sc.c5
    have a2 := (k.scn h.sc.sc).c5
    rw [a1] at a2
    exact Option.some.inj a2
  subst e
  exact h2
theorem PI.drewN (h : PI w0 w cb pb o s i bad N nv C v main P pv fl) (q : Nat) : PI w0 (w.drewN q) cb pb o s i bad N nv C v main P pv fl :=
  ⟨⟨h.sc.sc, h.sc.own⟩, h.pr, h.pown, h.fown, h.s1, h.s2, h.s3, below_drewN2 h.bel q, h.e1, h.e2⟩

/-- One procedure more. -/
theorem PI.push {w1 : World} {gg cap : Nat} (h : PI w0 w cb pb o s i bad N nv C v main P pv fl)
    (hown1 : w1.ownsRow (w0.heap.size + 2) 3 1 (.slice (some ⟨gg, 0, none⟩) (P.length + 1) cap) (P.length + 1) (cells P ++ [.int .i64 (i : Int)]))
    (hgrow : (w.alloc (.cells #[.int .i64 (i : Int)] 3)).drew.grownBy w1 pv.ownBlock) (hat : pv.ownBlock = some gg ∨ gg = w.heap.size + 1) :
    PI w0 (w1.setCell ⟨pb, 3, none⟩ (.slice (some ⟨gg, 0, none⟩) (P.length + 1) cap)) cb pb o s i bad N nv C v main (P ++ [i]) (.slice (some ⟨gg, 0, none⟩) (P.length + 1) cap) fl := by
  have hsz : (w.alloc (.cells #[.int .i64 (i : Int)] 3)).drew.heap.size = w.heap.size + 1 := by simp
  have hws := h.bel.size
  have e1 := h.e1
  have e2 := h.e2
  have hpb : pb < w.heap.size := (Array.getElem?_eq_some_iff.1 h.pr).1
  have hcb : cb < w.heap.size := by omega
  have hpp : ∀ j, pv.ownBlock = some j → w0.heap.size + 2 ≤ j := fun j hj => (h.pown.lt j hj).1
  have hb1 : ∀ k, k < w.heap.size → some k ≠ pv.ownBlock → w1.heap[k]? = w.heap[k]? := fun k hk hne =>
    (hgrow.block k (by omega) hne).trans (Below.heap_alloc w _ k hk)
  have hpr1 : w1.heap[pb]? = some (.cells (pgC o s main pv fl) 79 (0, 0)) := (hb1 pb hpb (fun e => by have := hpp pb e.symm; omega)).trans h.pr
  have hset : w1.setCell ⟨pb, 3, none⟩ (.slice (some ⟨gg, 0, none⟩) (P.length + 1) cap) = w1.setRow pb (pgC o s main (.slice (some ⟨gg, 0, none⟩) (P.length + 1) cap) fl) := by
    rw [setCell_eq_setRow w1 pb _ _ _ _ _ hpr1]; rfl
  rw [hset]
  have hgg := hown1.lt gg rfl
  have hb2 : ∀ k, k ≠ pb → (w1.setRow pb (pgC o s main (.slice (some ⟨gg, 0, none⟩) (P.length + 1) cap) fl)).heap[k]? = w1.heap[k]? := fun k hk => setRow_other w1 pb k _ hk
  have kb : ∀ (l : Value) (n : Nat) (xs : List Value), w.ownsRow (w0.heap.size + 2) 3 1 l n xs → (l.ownBlock = none ∨ l.ownBlock ≠ pv.ownBlock) → ∀ g, l.ownBlock = some g → (w1.setRow pb (pgC o s main (.slice (some ⟨gg, 0, none⟩) (P.length + 1) cap) fl)).heap[g]? = w.heap[g]? := by
    intro l n xs hl hne g hg
    have hlt := hl.lt g hg
    refine (hb2 g (by omega)).trans (hb1 g hlt.2 (fun e => ?_))
    rcases hne with hn | hn
    · rw [hn] at hg; cases hg
    · exact hn (hg.trans e)
  have sep : ∀ (l : Value) (n : Nat) (xs : List Value), w.ownsRow (w0.heap.size + 2) 3 1 l n xs → (l.ownBlock = none ∨ l.ownBlock ≠ pv.ownBlock) → l.ownBlock = none ∨ l.ownBlock ≠ some gg := by
    intro l n xs hl hne
    rcases hat with e | e
    · rw [← e]; exact hne
    · cases el : l.ownBlock with
      | none => exact Or.inl rfl
      | some g =>
        right
        intro e'
        have := (hl.lt g el).2
        simp at e'
        omega
  have s3' : fl.ownBlock = none ∨ fl.ownBlock ≠ pv.ownBlock := by
    rcases h.s3 with e | e
    · cases ef : fl.ownBlock with
      | none => exact Or.inl rfl
      | some g => exact Or.inr (by rw [e]; simp)
    · exact Or.inr (Ne.symm e)
  have hfs := sep fl _ _ h.fown s3'
  refine ⟨⟨?_, ownsRow_keep h.sc.own (kb v _ _ h.sc.own h.s1)⟩, setRow_heap w1 pb _ _ _ _ hpr1, ?_, ownsRow_keep h.fown (kb fl _ _ h.fown s3'), sep v _ _ h.sc.own h.s1, h.s2, ?_, ?_, e1, e2⟩
  · exact (hb2 cb (by omega)).trans ((hb1 cb hcb (fun e => by have := hpp cb e.symm; omega)).trans h.sc.sc)
  · have h3 := ownsRow_keep hown1 (w' := w1.setRow pb (pgC o s main (.slice (some ⟨gg, 0, none⟩) (P.length + 1) cap) fl)) (fun g hg => hb2 g (by simp [Value.ownBlock] at hg; omega))
    rw [cells_snoc] at h3
    simpa using h3
  · right
    intro e
    rcases hfs with e' | e'
    · rw [e'] at e; simp [Value.ownBlock] at e
    · exact e' e.symm
  · refine h.bel.trans ⟨hgrow.os, hgrow.tape, hgrow.output, by have := hgrow.size; simp at this ⊢; omega, fun k hk => (hb2 k (by omega)).trans (hb1 k (by omega) (fun e => by have := hpp k e.symm; omega))⟩

end Go.Proofs.YtfcflnnleadpkaaGreat

namespace Go.Proofs.YtfcflnnleadpkaaGreat

/-- Levels that are well ordered. -/
structure Lattice (n : Nat) (R : Nat → Nat → Bool) : Prop where
  refl : ∀ a, a < n → R a a = true
  trans : Trans n R
  anti : ∀ a b, a < n → b < n → R a b = true → R b a = true → a = b
  join : ∀ a b, a < n → b < n → ∃ c, c < n ∧ Hm.lub R n a b c = true

theorem cl_lattice (s : ByteArray) (n : Nat) (h : Hm.wellR (cl s n) n = true) : Lattice n (cl s n) := by
  rw [Hm.wellR_iff] at h
  refine ⟨fun a ha => wf_refl n _ n a ha, wf_trans n _, fun a b ha hb h1 h2 => ?_, fun a b ha hb => ((Hm.wellRow_iff _ _ _ _).1 (h a b ha hb)).2.1⟩
  have := ((Hm.wellRow_iff _ _ _ _).1 (h a b ha hb)).1
  by_cases e : a = b
  · exact e
  · exact absurd ⟨e, h1, h2⟩ this

variable {n : Nat} {R : Nat → Nat → Bool}

theorem Lattice.lub_uniq (L : Lattice n R) {a b c d : Nat} (hc : c < n) (hd : d < n) (h1 : Hm.lub R n a b c = true) (h2 : Hm.lub R n a b d = true) : c = d := by
  rw [Hm.lub_iff] at h1 h2
  exact L.anti c d hc hd (h1.2.2 d hd h2.1 h2.2.1) (h2.2.2 c hc h1.1 h1.2.1)
/-- The join, as a number. -/
theorem Lattice.joinN (L : Lattice n R) {a b : Nat} (ha : a < n) (hb : b < n) : ∃ c : Nat, c < n ∧ Hm.joinI R n a b = (c : Int) ∧ Hm.lub R n a b c = true := by
  obtain ⟨c, hc, h⟩ := L.join a b ha hb
  have hne := (Hm.joinI_ok_iff R n a b).2 ⟨c, hc, h⟩
  rcases Hm.firstB_spec (Hm.lub R n a b) n 0 with ⟨d, _, h2, h3, h4⟩ | ⟨h1, _⟩
  · exact ⟨d, by omega, h4, h3⟩
  · exact absurd h1 hne
theorem Lattice.join_of (L : Lattice n R) {a b c : Nat} (ha : a < n) (hb : b < n) (hc : c < n) (h : Hm.lub R n a b c = true) : Hm.joinI R n a b = (c : Int) := by
  obtain ⟨d, hd, h1, h2⟩ := L.joinN ha hb
  rw [h1, L.lub_uniq hd hc h2 h]

/-- All that Bounds asks of three levels. -/
theorem Lattice.bounds (L : Lattice n R) {a b c : Nat} (ha : a < n) (hb : b < n) (hc : c < n) :
    ∃ ab bc x : Nat, ab < n ∧ bc < n ∧ x < n ∧ Hm.joinI R n a b = (ab : Int) ∧ Hm.joinI R n b a = (ab : Int) ∧ Hm.joinI R n a a = (a : Int) ∧ Hm.joinI R n b c = (bc : Int) ∧
      Hm.joinI R n ab c = (x : Int) ∧ Hm.joinI R n a bc = (x : Int) ∧ Hm.joinI R n a ab = (ab : Int) ∧ R a ab = true ∧ R b ab = true := by
  obtain ⟨ab, hab, e1, l1⟩ := L.joinN ha hb
  obtain ⟨bc, hbc, e2, l2⟩ := L.joinN hb hc
  obtain ⟨x, hx, e3, l3⟩ := L.joinN hab hc
  have i1 := (Hm.lub_iff _ _ _ _ _).1 l1
  have i2 := (Hm.lub_iff _ _ _ _ _).1 l2
  have i3 := (Hm.lub_iff _ _ _ _ _).1 l3
  refine ⟨ab, bc, x, hab, hbc, hx, e1, L.join_of hb ha hab (Hm.lub_symm _ _ _ _ _ l1), L.join_of ha ha ha ?_, e2, e3, L.join_of ha hbc hx ?_, L.join_of ha hab hab ?_, i1.1, i1.2.1⟩
  · exact (Hm.lub_iff _ _ _ _ _).2 ⟨L.refl a ha, L.refl a ha, fun d _ h _ => h⟩
  · refine (Hm.lub_iff _ _ _ _ _).2 ⟨L.trans a ab x ha hab hx i1.1 i3.1, i2.2.2 x hx (L.trans b ab x hb hab hx i1.2.1 i3.1) i3.2.1, fun d hd h1 h2 => ?_⟩
    exact i3.2.2 d hd (i1.2.2 d hd h1 (L.trans b bc d hb hbc hd i2.1 h2)) (L.trans c bc d hc hbc hd i2.2.1 h2)
  · exact (Hm.lub_iff _ _ _ _ _).2 ⟨i1.1, L.refl ab hab, fun d _ _ h => h⟩

end Go.Proofs.YtfcflnnleadpkaaGreat

namespace Go.Proofs.YtfcflnnleadpkaaGreat

/-- The join and the bottom, as numbers. -/
def jn (R : Nat → Nat → Bool) (n a b : Nat) : Nat := (Hm.joinI R n a b).toNat
def bot (R : Nat → Nat → Bool) (n : Nat) : Nat := (Hm.firstB (fun a => Hm.allB (R a) n 0) n 0).toNat
theorem Lattice.jn_lt {n : Nat} {R : Nat → Nat → Bool} (L : Lattice n R) {a b : Nat} (ha : a < n) (hb : b < n) : jn R n a b < n ∧ Hm.joinI R n a b = (jn R n a b : Int) ∧ Hm.lub R n a b (jn R n a b) = true := by
  obtain ⟨c, h1, h2, h3⟩ := L.joinN ha hb
  have e : jn R n a b = c := by unfold jn; rw [h2]; rfl
  rw [e]; exact ⟨h1, h2, h3⟩
theorem bot_lt {n : Nat} {R : Nat → Nat → Bool} (h : 1 ≤ n) : bot R n < n := by
  unfold bot
  have := Hm.firstB_lt (fun a => Hm.allB (R a) n 0) n
  omega

/-- A labelling that is being looked at: the variables' levels, the procedures' contexts and throws; whether something was raised; the first bad place. -/
structure WS where
  V : Nat → Nat
  X : Nat → Nat
  T : Nat → Nat
  ra : Bool
  bad : Int
def setF (F : Nat → Nat) (k x : Nat) : Nat → Nat := fun j => if j = k then x else F j

section
variable (c : Nat → Int) (R : Nat → Nat → Bool) (n : Nat) (fx : Nat → Int) (low : Bool)

/-- An expression: where it ends, its label, the label of its divisors, whether there are any. -/
def labE (V : Nat → Nat) : Nat → Nat → Nat × Nat × Nat × Bool
  | 0, i => (i, bot R n, bot R n, false)
  | f + 1, i =>
    if isOp (c i) = true then
      ((labE V f (labE V f (i + 1)).1).1, jn R n (labE V f (i + 1)).2.1 (labE V f (labE V f (i + 1)).1).2.1,
        (if c i = 47 then jn R n (jn R n (labE V f (i + 1)).2.2.1 (labE V f (labE V f (i + 1)).1).2.2.1) (labE V f (labE V f (i + 1)).1).2.1 else jn R n (labE V f (i + 1)).2.2.1 (labE V f (labE V f (i + 1)).1).2.2.1),
        ((labE V f (i + 1)).2.2.2 || (labE V f (labE V f (i + 1)).1).2.2.2) || (c i == 47))
    else if isDB (c i) 10 = true then (i + 1, bot R n, bot R n, false)
    else (i + 1, V (c i - 97).toNat, bot R n, false)
/-- An expression in a context: where it ends, the context with its label, D. -/
def condW (V : Nat → Nat) (f i p : Nat) : Nat × Nat × Nat :=
  ((labE c R n V f i).1, jn R n p (labE c R n V f i).2.1, if (labE c R n V f i).2.2.2 = true then jn R n p (labE c R n V f i).2.2.1 else bot R n)
def demW (mute : Bool) (st : WS) (a b i : Nat) : WS := if mute = false ∧ R a b = false ∧ (st.bad < 0 ∨ (i : Int) < st.bad) then { st with bad := (i : Int) } else st
def atLW (mute : Bool) (st : WS) (v a i : Nat) : WS :=
  if mute = true then st
  else if low = true ∧ fx v < 0 then (if jn R n (st.V v) a = st.V v then st else { st with V := setF st.V v (jn R n (st.V v) a), ra := true })
  else demW R mute st a (st.V v) i
def callW (mute : Bool) (st : WS) (k p i : Nat) : WS :=
  if low = true ∧ mute = false then (if jn R n (st.X k) p = st.X k then st else { st with X := setF st.X k (jn R n (st.X k) p), ra := true })
  else demW R mute st p (st.X k) i
/-- A statement in the context p: where it ends, its throw, the labelling behind it. -/
def wkS : Nat → Bool → Nat → Nat → WS → Nat × Nat × WS
  | 0, _, i, _, st => (i, bot R n, st)
  | f + 1, mute, i, p, st =>
    if c i = 44 ∨ c i = 116 then
      (let r1 := wkS f mute (i + 1) p st
       let r2 := wkS f mute r1.1 (jn R n p r1.2.1) r1.2.2
       (r2.1, (if c i = 44 then jn R n r1.2.1 r2.2.1 else r2.2.1), r2.2.2))
    else if c i = 61 then
      (let e := condW c R n st.V f (i + 2) p
       (e.1, e.2.2, atLW R n fx low mute st (c (i + 1) - 97).toNat e.2.1 i))
    else if c i = 105 then
      (let e := condW c R n st.V f (i + 1) p
       let r1 := wkS f mute e.1 e.2.1 st
       let r2 := wkS f mute r1.1 e.2.1 r1.2.2
       (r2.1, jn R n e.2.2 (jn R n r1.2.1 r2.2.1), r2.2.2))
    else if c i = 119 then
      (let e := condW c R n st.V f (i + 1) p
       let r := jn R n e.2.1 e.2.2
       let r1 := wkS f true e.1 r st
       (r1.1, jn R n e.2.2 r1.2.1, if mute = true then r1.2.2 else (wkS f false e.1 (jn R n r r1.2.1) r1.2.2).2.2))
    else if c i = 114 then
      (let d := (c (i + 1) - 48).toNat
       let q := jn R n p d
       (i + 3, q, atLW R n fx low mute (demW R mute st p d i) (c (i + 2) - 97).toNat q i))
    else if c i = 111 then
      (let d := (c (i + 1) - 48).toNat
       let e := condW c R n st.V f (i + 2) p
       (e.1, e.2.2, demW R mute st e.2.1 d i))
    else if c i = 120 then (i + 1, p, st)
    else if c i = 99 then (i + 2, jn R n p (st.T (c (i + 1) - 48).toNat), callW R n low mute st (c (i + 1) - 48).toNat p i)
    else (i + 1, bot R n, st)
end

/-- A statement that is whole: its calls' procedures are there. -/
def wfS (c : Nat → Int) (nv N np : Nat) : Nat → Nat → Nat × Bool
  | 0, i => (i, true)
  | f + 1, i =>
    if c i = 46 ∨ c i = 120 then (i + 1, false)
    else if c i = 44 ∨ c i = 116 then (if (wfS c nv N np f (i + 1)).2 = true then (i, true) else wfS c nv N np f (wfS c nv N np f (i + 1)).1)
    else if c i = 61 then (if isVar nv (c (i + 1)) = true then scE c nv f (i + 2) else (i, true))
    else if c i = 105 then (if (scE c nv f (i + 1)).2 = true then (i, true) else if (wfS c nv N np f (scE c nv f (i + 1)).1).2 = true then (i, true) else wfS c nv N np f (wfS c nv N np f (scE c nv f (i + 1)).1).1)
    else if c i = 119 then (if (scE c nv f (i + 1)).2 = true then (i, true) else wfS c nv N np f (scE c nv f (i + 1)).1)
    else if c i = 114 then (if isDB (c (i + 1)) N = true ∧ isVar nv (c (i + 2)) = true then (i + 3, false) else (i, true))
    else if c i = 111 then (if isDB (c (i + 1)) N = true then scE c nv f (i + 2) else (i, true))
    else if c i = 99 then (if isDB (c (i + 1)) np = true then (i + 2, false) else (i, true))
    else (i, true)

/-- The labels are levels. -/
structure InR (n nv np : Nat) (st : WS) : Prop where
  V : ∀ k, k < nv → st.V k < n
  X : ∀ k, k < np → st.X k < n
  T : ∀ k, k < np → st.T k < n

end Go.Proofs.YtfcflnnleadpkaaGreat

namespace Go.Proofs.YtfcflnnleadpkaaGreat
open Go.RowKit

theorem PI_init {w W2 w1 : World} {o : Value} {s : ByteArray} {I N nv : Nat} {bad : Bool} {l : Value} (hW : W2.heap.size = w.heap.size + 2) (hWb : Below w.heap.size w W2)
    (hsc : Scn w1 w.heap.size s I bad N 0 (.slice none 0 0)) (hpr : w1.heap[w.heap.size + 1]? = some (.cells (pgC o s 0 (.slice none 0 0) (.slice none 0 0)) 79 (0, 0)))
    (hown : w1.ownsRow (w.heap.size + 2) 3 1 l nv (fixL (bt s) N nv)) (hkp : Kp w.heap.size none W2 w1) :
    PI w (((w1.setCell ⟨w.heap.size + 1, 4, none⟩ l).setCell ⟨w.heap.size, 4, none⟩ (.int .i64 (nv : Int))).setCell ⟨w.heap.size + 1, 2, none⟩ (.int .i64 (I : Int))) w.heap.size (w.heap.size + 1)
      o s I bad N nv [] (.slice none 0 0) I [] (.slice none 0 0) l := by
  have h0 := hkp.size
  have a1 : w1.setCell ⟨w.heap.size + 1, 4, none⟩ l = w1.setRow (w.heap.size + 1) (pgC o s 0 (.slice none 0 0) l) := by rw [setCell_eq_setRow w1 _ _ _ _ _ _ hpr]; rfl
  have h1 : (w1.setRow (w.heap.size + 1) (pgC o s 0 (.slice none 0 0) l)).heap[w.heap.size]? = some (.cells (scC s I bad N 0 (.slice none 0 0)) 95 (0, 0)) := (setRow_other w1 _ _ _ (by omega)).trans hsc
  have h2 := setRow_heap w1 (w.heap.size + 1) _ (pgC o s 0 (.slice none 0 0) l) _ _ hpr
  rw [a1, setCell_eq_setRow _ w.heap.size 4 _ _ _ _ h1]
  have h3 : ((w1.setRow (w.heap.size + 1) (pgC o s 0 (.slice none 0 0) l)).setRow w.heap.size ((scC s I bad N 0 (.slice none 0 0)).setIfInBounds 4 (.int .i64 (nv : Int)))).heap[w.heap.size + 1]? = some (.cells (pgC o s 0 (.slice none 0 0) l) 79 (0, 0)) :=
    (setRow_other _ _ _ _ (by omega)).trans h2
  have h4 := setRow_heap (w1.setRow (w.heap.size + 1) (pgC o s 0 (.slice none 0 0) l)) w.heap.size _ ((scC s I bad N 0 (.slice none 0 0)).setIfInBounds 4 (.int .i64 (nv : Int))) _ _ h1
  rw [setCell_eq_setRow _ (w.heap.size + 1) 2 _ _ _ _ h3]
  have hoth : ∀ k, k ≠ w.heap.size → k ≠ w.heap.size + 1 → (((w1.setRow (w.heap.size + 1) (pgC o s 0 (.slice none 0 0) l)).setRow w.heap.size ((scC s I bad N 0 (.slice none 0 0)).setIfInBounds 4 (.int .i64 (nv : Int)))).setRow (w.heap.size + 1) ((pgC o s 0 (.slice none 0 0) l).setIfInBounds 2 (.int .i64 (I : Int)))).heap[k]? = w1.heap[k]? := fun k hk1 hk2 =>
    (setRow_other _ _ _ _ hk2).trans ((setRow_other _ _ _ _ hk1).trans (setRow_other _ _ _ _ hk2))
  refine ⟨⟨?_, World.ownsRow_nil _ _ _ _⟩, ?_, World.ownsRow_nil _ _ _ _, ?_, Or.inl rfl, Or.inl rfl, Or.inl rfl, ?_, rfl, rfl⟩
  · exact (setRow_other _ _ _ _ (by omega)).trans h4
  · exact setRow_heap _ (w.heap.size + 1) _ _ _ _ h3
  · exact ownsRow_keep hown (fun g hg => hoth g (by have := (hown.lt g hg).1; omega) (by have := (hown.lt g hg).1; omega))
  · refine hWb.trans ⟨hkp.os, hkp.tape, hkp.output, by simp; exact hkp.size, fun k hk => (hoth k (by omega) (by omega)).trans (hkp.block k (by omega) (by omega) (by simp))⟩

section
variable {w0 w : World} {cb pb : Nat} {o : Value} {s : ByteArray} {i : Nat} {bad : Bool} {N nv : Nat} {C : List Nat} {v : Value} {main : Nat} {P : List Nat} {pv fl : Value}
theorem PI.setBad (h : PI w0 w cb pb o s i bad N nv C v main P pv fl) (x : Bool) : PI w0 (w.setCell ⟨cb, 2, none⟩ (.bool x)) cb pb o s i x N nv C v main P pv fl := by
  rw [h.sc.sc.set2]
  exact h.scan (r := (i, x)) (w' := w.setRow cb (scC s i x N nv v)) ⟨0, rfl⟩
theorem PI.setI (h : PI w0 w cb pb o s i bad N nv C v main P pv fl) (x : Int) (j : Nat) (hx : x = (j : Int)) : PI w0 (w.setCell ⟨cb, 1, none⟩ (.int .i64 x)) cb pb o s j bad N nv C v main P pv fl := by
  rw [h.sc.sc.set1 x j hx]
  exact h.scan (r := (j, bad)) (w' := w.setRow cb (scC s j bad N nv v)) ⟨0, rfl⟩
end

/-- What the document's Parse answers, and what it leaves. -/
def ParseAns (w0 : World) (o : Value) (s : ByteArray) (N : Nat) (e : Ending) (w' : World) : Prop :=
  (prE s N ≠ 0 ∧ e = .returned (.tuple #[.pointer none, .int .i64 (prE s N), .int .i64 (prP s N)])) ∨
  (prE s N = 0 ∧ s.size ≤ 300 ∧ e = .returned (.tuple #[.pointer (some ⟨w0.heap.size + 1, 0, none⟩), .int .i64 0, .int .i64 0]) ∧
    ∃ v pv fl, PI w0 w' w0.heap.size (w0.heap.size + 1) o s (prA s N).1 false N (prNv s N) (prA s N).2.2.1 v (prNv s N + 1) (prPs s N) pv fl)

theorem scPr_end {c : Nat → Int} {nv N sz f g i : Nat} {C P : List Nat} (h : ¬ i < sz) : scPr c nv N sz f (g + 1) i C P = (i, false, C, P) := by
  simp only [scPr]; rw [if_neg h]
theorem scPr_bad {c : Nat → Int} {nv N sz f g i : Nat} {C P : List Nat} (h : i < sz) (h2 : ¬ (c i = 59 ∧ P.length < 4)) : scPr c nv N sz f (g + 1) i C P = (i, true, C, P) := by
  simp only [scPr]; rw [if_pos h, if_neg h2]
theorem scPr_go {c : Nat → Int} {nv N sz f g i : Nat} {C P : List Nat} (h : i < sz) (h2 : c i = 59 ∧ P.length < 4) (h3 : (scS c nv N f (i + 1) C).2.1 = false) :
    scPr c nv N sz f (g + 1) i C P = scPr c nv N sz f g (scS c nv N f (i + 1) C).1 (scS c nv N f (i + 1) C).2.2 (P ++ [i + 1]) := by
  simp only [scPr]; rw [if_pos h, if_pos h2, h3]; simp
theorem scPr_stuck {c : Nat → Int} {nv N sz f g i : Nat} {C P : List Nat} (h : i < sz) (h2 : c i = 59 ∧ P.length < 4) (h3 : (scS c nv N f (i + 1) C).2.1 = true) :
    scPr c nv N sz f (g + 1) i C P = ((scS c nv N f (i + 1) C).1, true, (scS c nv N f (i + 1) C).2.2, P ++ [i + 1]) := by
  simp only [scPr]; rw [if_pos h, if_pos h2, h3]; simp

/-- The state ahead of a round: what is still to be read comes to the whole. -/
structure LoopI (w0 wr : World) (o : Value) (s : ByteArray) (N nv g i : Nat) (bad : Bool) (C : List Nat) (main : Nat) (P : List Nat) (A : Nat × Bool × List Nat × List Nat) : Prop where
  pi : ∃ v pv fl, PI w0 wr w0.heap.size (w0.heap.size + 1) o s i bad N nv C v main P pv fl
  all : if bad = true then A = (i, true, C, P) else (∃ g', g = g' + 1 ∧ A = scPr (bt s) nv N s.size (s.size + 1) g' i C P ∧ P.length + g' = 5 ∧ P.length ≤ 4)
  le : i ≤ s.size
  cl : C.length ≤ i
  inT : bad = false → ∀ k, k ∈ C → k < s.size

/-- The calls' places lie in the text, where the reader is not stuck. -/
def InT (s : ByteArray) (r : Nat × Bool × List Nat) : Prop := r.2.1 = false → ∀ k, k ∈ r.2.2 → k < s.size
theorem thenS_in {s : ByteArray} {r : Nat × Bool × List Nat} {g : Nat → List Nat → Nat × Bool × List Nat} (h : InT s r) (k : (∀ x, x ∈ r.2.2 → x < s.size) → InT s (g r.1 r.2.2)) : InT s (thenS r g) := by
  unfold thenS
  cases e : r.2.1 with
  | true => rw [if_pos rfl]; exact h
  | false => rw [if_neg (by simp)]; exact k (h e)
theorem thenE_in {s : ByteArray} {e : Nat × Bool} {C : List Nat} {g : Nat → Nat × Bool × List Nat} (k : InT s (g e.1)) : InT s (thenE e C g) := by
  unfold thenE
  cases h : e.2 with
  | true => rw [if_pos rfl]; intro h2; simp at h2
  | false => rw [if_neg (by simp)]; exact k
theorem thenX_in {s : ByteArray} {r : Nat × Bool} {C : List Nat} {g : Nat → Nat × Bool} (hC : ∀ k, k ∈ C → k < s.size) : InT s (thenX r C g) := by
  unfold thenX
  split
  · intro h; simp at h
  · intro _; exact hC
theorem scS_in (s : ByteArray) (nv N f : Nat) : ∀ (i : Nat) (C : List Nat), (∀ k, k ∈ C → k < s.size) → InT s (scS (bt s) nv N f i C) := by
  induction f with
  | zero => intro i C hC h; simp [scS] at h
  | succ f ih =>
    intro i C hC
    by_cases c1 : bt s i = 46 ∨ bt s i = 120
    · rw [scS_plain c1]; intro _; exact hC
    by_cases c2 : bt s i = 44 ∨ bt s i = 116
    · rw [scS_seq c2]; exact thenS_in (ih _ _ hC) (fun h => ih _ _ h)
    by_cases c3 : bt s i = 61
    · rw [scS_eq c3]; exact thenX_in hC
    by_cases c4 : bt s i = 105
    · rw [scS_i c4]; exact thenE_in (thenS_in (ih _ _ hC) (fun h => ih _ _ h))
    by_cases c5 : bt s i = 119
    · rw [scS_w c5]; exact thenE_in (ih _ _ hC)
    by_cases c6 : bt s i = 114
    · rw [scS_r c6]; exact thenX_in hC
    by_cases c7 : bt s i = 111
    · rw [scS_o c7]; exact thenX_in hC
    by_cases c8 : bt s i = 99
    · rw [scS_c c8]
      intro h k hk
      unfold dgS at h
      cases e : isDB (bt s (i + 1)) 4 with
      | false => rw [e] at h; simp at h
      | true =>
        rcases List.mem_append.1 hk with h1 | h1
        · exact hC k h1
        · simp at h1; subst h1; exact isDB_lt e
    rw [scS_no (by omega) (by omega) (by omega) (by omega) c3 c4 c5 c6 c7 c8]
    intro h; simp at h
theorem badCall_drop (c : Nat → Int) (n : Nat) (C : List Nat) (j : Nat) (hj : j < C.length) : badCall c n (C.drop j) = if (n : Int) ≤ dgt (c (C.getD j 0)) 4 then some (C.getD j 0) else badCall c n (C.drop (j + 1)) := by
  rw [List.drop_eq_getElem_cons hj]
  have e : C[j] = C.getD j 0 := by simp [hj]
  simp only [badCall, e]

end Go.Proofs.YtfcflnnleadpkaaGreat
