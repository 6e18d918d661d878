import Derived.Test.YtfcflnnleadpkaaBa
namespace Go.Proofs.Ytfcflnnleadpkaa
open Go.RowKit

/-- The document's order in memory at the block o: its number, its rows. -/
structure Ord (w : World) (o g cap n : Nat) (rb : Nat → Nat) (R : Nat → Nat → Bool) : Prop where
  cn : w.cell? ⟨o, 0, none⟩ = some (.int .i64 (n : Int))
  cb : w.cell? ⟨o, 1, none⟩ = some (.slice (some ⟨g, 0, none⟩) n cap)
  row : ∀ i, i < n → w.cell? ⟨g, i, none⟩ = some (.slice (some ⟨rb i, 0, none⟩) n n)
  bel : ∀ i j, i < n → j < n → w.cell? ⟨rb i, j, none⟩ = some (.bool (R i j))

set_option maxHeartbeats 400000 in
theorem above_any (w : World) (o g cap n i j k : Nat) (rb : Nat → Nat) (R : Nat → Nat → Bool) (ho : Ord w o g cap n rb R) (hi : i < n) (hj : j < n) (hk : k < n) :
    Calls Try.prog 72 #[.pointer (some ⟨o, 0, none⟩), .int .i64 (i : Int), .int .i64 (j : Int), .int .i64 (k : Int)] w fun e w' => e = .returned (.bool (Hm.both R i j k)) ∧ w' = w := by
  have hb := ho.cb
  have r1 := ho.row i hi
  have r2 := ho.row j hj
  have b1 := ho.bel i k hi hk
  have b2 := ho.bel j k hj hk
  have HF := hide (show Hm.both R i j k = (R i k && R j k) from rfl)
  cases h1 : R i k
  · rw [h1] at b1
    go_enter Try.func72, Try.ntmps72
    go_wp2_with fail
    go_ret
    exact ⟨by rw [unhide HF, h1]; rfl, rfl⟩
  · rw [h1] at b1
    go_enter Try.func72, Try.ntmps72
    go_wp2_with fail
    go_ret
    exact ⟨by rw [unhide HF, h1]; rfl, rfl⟩

set_option maxHeartbeats 400000 in
theorem least_any (w : World) (o g cap n i j k : Nat) (rb : Nat → Nat) (R : Nat → Nat → Bool) (hn : n ≤ 8) (ho : Ord w o g cap n rb R) (hi : i < n) (hj : j < n) (hk : k < n) :
    Calls Try.prog 55 #[.pointer (some ⟨o, 0, none⟩), .int .i64 (i : Int), .int .i64 (j : Int), .int .i64 (k : Int)] w fun e w' => e = .returned (.bool (Hm.lub R n i j k)) ∧ w' = w := by
  have hc := ho.cn
  have hb := ho.cb
  have r1 := ho.row k hk
  cases h1 : Hm.both R i j k
  · have HF := hide (show Hm.lub R n i j k = false by simp [Hm.lub, h1])
    go_enter Try.func55, Try.ntmps55
    go_wp2_with fail
    refine (above_any _ _ _ _ _ _ _ _ _ _ ho hi hj hk).mono ?_
    rintro e w' ⟨rfl, rfl⟩
    go_wp2_with fail
    go_ret
    exact ⟨by rw [unhide HF]; rfl, rfl⟩
  · have HF := hide (show Hm.lub R n i j k = Hm.allB (Hm.lubD R i j k) n 0 by simp [Hm.lub, h1])
    go_enter Try.func55, Try.ntmps55
    go_wp2_with fail
    refine (above_any _ _ _ _ _ _ _ _ _ _ ho hi hj hk).mono ?_
    rintro e w' ⟨rfl, rfl⟩
    go_wp2_with fail
    go_loop [9] (fun d => ∃ m : Nat, m ≤ n ∧ d = .int .i64 (m : Int) ∧ Hm.allB (Hm.lubD R i j k) n 0 = Hm.allB (Hm.lubD R i j k) (n - m) m) (fun d => n - (intOf d).toNat)
    case atStart => exact ⟨0, Nat.zero_le _, rfl, rfl⟩
    case round =>
      obtain ⟨m, hm, rfl, hq⟩ := hrel
      have HQ := hide hq
      clear hq
      by_cases hlt : m < n
      · have b1 := ho.bel k m hk hlt
        cases h2 : Hm.both R i j m
        · have HS := hide (Hm.allB_yes (p := Hm.lubD R i j k) hlt (by simp [Hm.lubD, h2]))
          go_wp2_with fail
          refine (above_any _ _ _ _ _ _ _ _ _ _ ho hi hj hlt).mono ?_
          rintro e w' ⟨rfl, rfl⟩
          go_wp2_with fail
          go_round
          case rel => exact ⟨m + 1, by omega, by go_num, by rw [unhide HQ, unhide HS]⟩
          case measure => simp [intOf]; omega
        · cases h3 : R k m
          · have HS := hide (Hm.allB_no (p := Hm.lubD R i j k) hlt (by simp [Hm.lubD, h2, h3]))
            rw [h3] at b1
            go_wp2_with fail
            refine (above_any _ _ _ _ _ _ _ _ _ _ ho hi hj hlt).mono ?_
            rintro e w' ⟨rfl, rfl⟩
            go_wp2_with fail
            go_ret
            exact ⟨by rw [unhide HF, unhide HQ, unhide HS]; rfl, rfl⟩
          · have HS := hide (Hm.allB_yes (p := Hm.lubD R i j k) hlt (by simp [Hm.lubD, h3]))
            rw [h3] at b1
            go_wp2_with fail
            refine (above_any _ _ _ _ _ _ _ _ _ _ ho hi hj hlt).mono ?_
            rintro e w' ⟨rfl, rfl⟩
            go_wp2_with fail
            go_round
            case rel => exact ⟨m + 1, by omega, by go_num, by rw [unhide HQ, unhide HS]⟩
            case measure => simp [intOf]; omega
      · have HS := hide (Hm.allB_end (p := Hm.lubD R i j k) (n := n) (k := m) (by omega))
        go_wp2_with fail
        go_ret
        exact ⟨by rw [unhide HF, unhide HQ, unhide HS]; rfl, rfl⟩

set_option maxHeartbeats 400000 in
theorem Join_any (w : World) (o g cap n i j : Nat) (rb : Nat → Nat) (R : Nat → Nat → Bool) (hn : n ≤ 8) (ho : Ord w o g cap n rb R) (hi : i < n) (hj : j < n) :
    Calls Try.prog 38 #[.pointer (some ⟨o, 0, none⟩), .int .i64 (i : Int), .int .i64 (j : Int)] w fun e w' => e = .returned (.int .i64 (Hm.joinI R n i j)) ∧ w' = w := by
  have hc := ho.cn
  have HF := hide (show Hm.joinI R n i j = Hm.firstB (Hm.lub R n i j) n 0 from rfl)
  go_enter Try.func38, Try.ntmps38
  go_wp2_with fail
  go_loop [7] (fun d => ∃ m : Nat, m ≤ n ∧ d = .int .i64 (m : Int) ∧ Hm.firstB (Hm.lub R n i j) n 0 = Hm.firstB (Hm.lub R n i j) (n - m) m) (fun d => n - (intOf d).toNat)
  case atStart => exact ⟨0, Nat.zero_le _, rfl, rfl⟩
  case round =>
    obtain ⟨m, hm, rfl, hq⟩ := hrel
    have HQ := hide hq
    clear hq
    by_cases hlt : m < n
    · cases h2 : Hm.lub R n i j m
      · have HS := hide (Hm.firstB_no (p := Hm.lub R n i j) hlt h2)
        go_wp2_with fail
        refine (least_any _ _ _ _ _ _ _ _ _ _ hn ho hi hj hlt).mono ?_
        rintro e w' ⟨rfl, rfl⟩
        go_wp2_with fail
        go_round
        case rel => exact ⟨m + 1, by omega, by go_num, by rw [unhide HQ, unhide HS]⟩
        case measure => simp [intOf]; omega
      · have HS := hide (Hm.firstB_yes (p := Hm.lub R n i j) hlt h2)
        go_wp2_with fail
        refine (least_any _ _ _ _ _ _ _ _ _ _ hn ho hi hj hlt).mono ?_
        rintro e w' ⟨rfl, rfl⟩
        go_wp2_with fail
        go_ret
        exact ⟨by rw [unhide HF, unhide HQ, unhide HS]; rfl, rfl⟩
    · have HS := hide (Hm.firstB_end (p := Hm.lub R n i j) (n := n) (k := m) (by omega))
      go_wp2_with fail
      go_ret
      exact ⟨by rw [unhide HF, unhide HQ, unhide HS]; rfl, rfl⟩

set_option maxHeartbeats 400000 in
theorem greatest_any (w : World) (o g cap n i j k : Nat) (rb : Nat → Nat) (R : Nat → Nat → Bool) (hn : n ≤ 8) (ho : Ord w o g cap n rb R) (hi : i < n) (hj : j < n) (hk : k < n) :
    Calls Try.prog 71 #[.pointer (some ⟨o, 0, none⟩), .int .i64 (i : Int), .int .i64 (j : Int), .int .i64 (k : Int)] w fun e w' => e = .returned (.bool (Hm.glb R n i j k)) ∧ w' = w := by
  have hc := ho.cn
  have hb := ho.cb
  have r1 := ho.row k hk
  have b1 := ho.bel k i hk hi
  have b2 := ho.bel k j hk hj
  cases h1 : R k i
  · have HF := hide (show Hm.glb R n i j k = false by simp [Hm.glb, h1])
    rw [h1] at b1
    go_enter Try.func71, Try.ntmps71
    go_wp2_with fail
    go_ret
    exact ⟨by rw [unhide HF]; rfl, rfl⟩
  rw [h1] at b1
  cases h2 : R k j
  · have HF := hide (show Hm.glb R n i j k = false by simp [Hm.glb, h2])
    rw [h2] at b2
    go_enter Try.func71, Try.ntmps71
    go_wp2_with fail
    go_ret
    exact ⟨by rw [unhide HF]; rfl, rfl⟩
  rw [h2] at b2
  have HF := hide (show Hm.glb R n i j k = Hm.allB (Hm.glbD R i j k) n 0 by simp [Hm.glb, h1, h2])
  go_enter Try.func71, Try.ntmps71
  go_wp2_with fail
  clear b1 b2 h1 h2
  go_loop [9] (fun d => ∃ m : Nat, m ≤ n ∧ d = .int .i64 (m : Int) ∧ Hm.allB (Hm.glbD R i j k) n 0 = Hm.allB (Hm.glbD R i j k) (n - m) m) (fun d => n - (intOf d).toNat)
  case atStart => exact ⟨0, Nat.zero_le _, rfl, rfl⟩
  case round =>
    obtain ⟨m, hm, rfl, hq⟩ := hrel
    have HQ := hide hq
    clear hq
    by_cases hlt : m < n
    · have r2 := ho.row m hlt
      have b1 := ho.bel m i hlt hi
      have b2 := ho.bel m j hlt hj
      have b3 := ho.bel m k hlt hk
      cases h1 : R m i
      · have HS := hide (Hm.allB_yes (p := Hm.glbD R i j k) hlt (by simp [Hm.glbD, h1]))
        rw [h1] at b1
        go_wp2_with fail
        go_round
        case rel => exact ⟨m + 1, by omega, by go_num, by rw [unhide HQ, unhide HS]⟩
        case measure => simp [intOf]; omega
      · rw [h1] at b1
        cases h2 : R m j
        · have HS := hide (Hm.allB_yes (p := Hm.glbD R i j k) hlt (by simp [Hm.glbD, h2]))
          rw [h2] at b2
          go_wp2_with fail
          go_round
          case rel => exact ⟨m + 1, by omega, by go_num, by rw [unhide HQ, unhide HS]⟩
          case measure => simp [intOf]; omega
        · rw [h2] at b2
          cases h3 : R m k
          · have HS := hide (Hm.allB_no (p := Hm.glbD R i j k) hlt (by simp [Hm.glbD, h1, h2, h3]))
            rw [h3] at b3
            go_wp2_with fail
            go_ret
            exact ⟨by rw [unhide HF, unhide HQ, unhide HS]; rfl, rfl⟩
          · have HS := hide (Hm.allB_yes (p := Hm.glbD R i j k) hlt (by simp [Hm.glbD, h3]))
            rw [h3] at b3
            go_wp2_with fail
            go_round
            case rel => exact ⟨m + 1, by omega, by go_num, by rw [unhide HQ, unhide HS]⟩
            case measure => simp [intOf]; omega
    · have HS := hide (Hm.allB_end (p := Hm.glbD R i j k) (n := n) (k := m) (by omega))
      go_wp2_with fail
      go_ret
      exact ⟨by rw [unhide HF, unhide HQ, unhide HS]; rfl, rfl⟩

set_option maxHeartbeats 400000 in
theorem meets_any (w : World) (o g cap n i j : Nat) (rb : Nat → Nat) (R : Nat → Nat → Bool) (hn : n ≤ 8) (ho : Ord w o g cap n rb R) (hi : i < n) (hj : j < n) :
    Calls Try.prog 54 #[.pointer (some ⟨o, 0, none⟩), .int .i64 (i : Int), .int .i64 (j : Int)] w fun e w' => e = .returned (.bool (Hm.meets R n i j)) ∧ w' = w := by
  have hc := ho.cn
  have HF := hide (show Hm.meets R n i j = Hm.anyB (Hm.glb R n i j) n 0 from rfl)
  go_enter Try.func54, Try.ntmps54
  go_wp2_with fail
  go_loop [7] (fun d => ∃ m : Nat, m ≤ n ∧ d = .int .i64 (m : Int) ∧ Hm.anyB (Hm.glb R n i j) n 0 = Hm.anyB (Hm.glb R n i j) (n - m) m) (fun d => n - (intOf d).toNat)
  case atStart => exact ⟨0, Nat.zero_le _, rfl, rfl⟩
  case round =>
    obtain ⟨m, hm, rfl, hq⟩ := hrel
    have HQ := hide hq
    clear hq
    by_cases hlt : m < n
    · cases h2 : Hm.glb R n i j m
      · have HS := hide (Hm.anyB_no (p := Hm.glb R n i j) hlt h2)
        go_wp2_with fail
        refine (greatest_any _ _ _ _ _ _ _ _ _ _ hn ho hi hj hlt).mono ?_
        rintro e w' ⟨rfl, rfl⟩
        go_wp2_with fail
        go_round
        case rel => exact ⟨m + 1, by omega, by go_num, by rw [unhide HQ, unhide HS]⟩
        case measure => simp [intOf]; omega
      · have HS := hide (Hm.anyB_yes (p := Hm.glb R n i j) hlt h2)
        go_wp2_with fail
        refine (greatest_any _ _ _ _ _ _ _ _ _ _ hn ho hi hj hlt).mono ?_
        rintro e w' ⟨rfl, rfl⟩
        go_wp2_with fail
        go_ret
        exact ⟨by rw [unhide HF, unhide HQ, unhide HS]; rfl, rfl⟩
    · have HS := hide (Hm.anyB_end (p := Hm.glb R n i j) (n := n) (k := m) (by omega))
      go_wp2_with fail
      go_ret
      exact ⟨by rw [unhide HF, unhide HQ, unhide HS]; rfl, rfl⟩

end Go.Proofs.Ytfcflnnleadpkaa
