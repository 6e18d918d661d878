import Derived.Test.YtfcflnnleadpkaaLr
namespace Go.Proofs.Ytfcflnnleadpkaa
open Go.RowKit

/-- A lattice in memory at the block b: its count and its table. -/
structure LatM (w : World) (b o : Nat) (n : Nat) (R : Nat → Nat → Bool) : Prop where
  cnt : w.cell? ⟨b, o + 2, none⟩ = some (.int .i64 (n : Int))
  bel : ∀ i j, i < 8 → j < 8 → w.cell? ⟨b, o + 3 + i * 8 + j, none⟩ = some (.bool (R i j))

set_option maxHeartbeats 400000 in
theorem has_any (w : World) (b o n : Nat) (a : Int) (hc : w.cell? ⟨b, o + 2, none⟩ = some (.int .i64 (n : Int))) :
    Calls Try.prog 36 #[.pointer (some ⟨b, o, none⟩), .int .i64 a] w fun e w' => e = .returned (.bool (decide (0 ≤ a ∧ a < (n : Int)))) ∧ w' = w := by
  by_cases h0 : 0 ≤ a
  · by_cases h1 : a < (n : Int)
    · go_enter Try.func36, Try.ntmps36
      go_wp2
      go_ret
      exact ⟨by simp [h0, h1], rfl⟩
    · go_enter Try.func36, Try.ntmps36
      go_wp2
      go_ret
      exact ⟨by simp [h1], rfl⟩
  · have hd : decide (0 ≤ a) = false := by simpa using h0
    have hr : decide (0 ≤ a ∧ a < (n : Int)) = false := by simp; omega
    go_enter Try.func36, Try.ntmps36
    go_wp2
    go_ret
    exact ⟨rfl, rfl⟩

set_option maxHeartbeats 400000 in
theorem isBelow_any (w : World) (b o n i j : Nat) (R : Nat → Nat → Bool) (hn : n ≤ 8) (hl : LatM w b o n R) (hi : i < n) (hj : j < n) :
    Calls Try.prog 70 #[.pointer (some ⟨b, o, none⟩), .int .i64 (i : Int), .int .i64 (j : Int)] w fun e w' => e = .returned (.bool (R i j)) ∧ w' = w := by
  have hc := hl.cnt
  have hb := hl.bel i j (by omega) (by omega)
  have q1 : decide (0 ≤ (i : Int) ∧ (i : Int) < (n : Int)) = true := by simp; omega
  have q2 : decide (0 ≤ (j : Int) ∧ (j : Int) < (n : Int)) = true := by simp; omega
  have hi' : (i : Int) < 8 := by omega
  have hj' : (j : Int) < 8 := by omega
  go_enter Try.func70, Try.ntmps70
  go_wp2_with (go_at_call 36; refine (has_any _ _ _ _ _ hc).mono ?_; rintro e w' ⟨rfl, rfl⟩)
  go_ret
  exact ⟨rfl, rfl⟩

set_option maxHeartbeats 400000 in
theorem bothBelow_any (w : World) (b o n i j k : Nat) (R : Nat → Nat → Bool) (hn : n ≤ 8) (hl : LatM w b o n R) (hi : i < n) (hj : j < n) (hk : k < n) :
    Calls Try.prog 110 #[.pointer (some ⟨b, o, none⟩), .int .i64 (i : Int), .int .i64 (j : Int), .int .i64 (k : Int)] w fun e w' => e = .returned (.bool (Hm.both R i j k)) ∧ w' = w := by
  unfold Hm.both
  cases h1 : R i k
  · go_enter Try.func110, Try.ntmps110
    go_wp2_with fail
    refine (isBelow_any _ _ _ _ _ _ _ hn hl hi hk).mono ?_
    rintro e w' ⟨rfl, rfl⟩
    go_wp2_with fail
    go_ret
    exact ⟨rfl, rfl⟩
  · go_enter Try.func110, Try.ntmps110
    go_wp2_with fail
    refine (isBelow_any _ _ _ _ _ _ _ hn hl hi hk).mono ?_
    rintro e w' ⟨rfl, rfl⟩
    go_wp2_with fail
    refine (isBelow_any _ _ _ _ _ _ _ hn hl hj hk).mono ?_
    rintro e w' ⟨rfl, rfl⟩
    go_wp2_with fail
    go_ret
    exact ⟨rfl, rfl⟩

set_option maxHeartbeats 400000 in
theorem isJoin_any (w : World) (b o n i j k : Nat) (R : Nat → Nat → Bool) (hn : n ≤ 8) (hl : LatM w b o n R) (hi : i < n) (hj : j < n) (hk : k < n) :
    Calls Try.prog 96 #[.pointer (some ⟨b, o, none⟩), .int .i64 (i : Int), .int .i64 (j : Int), .int .i64 (k : Int)] w fun e w' => e = .returned (.bool (Hm.lub R n i j k)) ∧ w' = w := by
  have hc := hl.cnt
  cases h1 : Hm.both R i j k
  · have HF := hide (show Hm.lub R n i j k = false by simp [Hm.lub, h1])
    go_enter Try.func96, Try.ntmps96
    go_wp2_with fail
    refine (bothBelow_any _ _ _ _ _ _ _ _ hn hl hi hj hk).mono ?_
    rintro e w' ⟨rfl, rfl⟩
    go_wp2_with fail
    go_ret
    exact ⟨by rw [unhide HF]; rfl, rfl⟩
  · have HF := hide (show Hm.lub R n i j k = Hm.allB (Hm.lubD R i j k) n 0 by simp [Hm.lub, h1])
    go_enter Try.func96, Try.ntmps96
    go_wp2_with fail
    refine (bothBelow_any _ _ _ _ _ _ _ _ hn hl hi hj hk).mono ?_
    rintro e w' ⟨rfl, rfl⟩
    go_wp2_with fail
    go_loop [9] (fun d => ∃ m : Nat, m ≤ n ∧ d = .int .i64 (m : Int) ∧ Hm.allB (Hm.lubD R i j k) n 0 = Hm.allB (Hm.lubD R i j k) (n - m) m) (fun d => n - (intOf d).toNat)
    case atStart => exact ⟨0, Nat.zero_le _, rfl, rfl⟩
    case round =>
      obtain ⟨m, hm, rfl, hq⟩ := hrel
      have HQ := hide hq
      clear hq
      by_cases hlt : m < n
      · cases h2 : Hm.both R i j m
        · have HS := hide (Hm.allB_yes (p := Hm.lubD R i j k) hlt (by simp [Hm.lubD, h2]))
          go_wp2_with fail
          refine (bothBelow_any _ _ _ _ _ _ _ _ hn hl hi hj hlt).mono ?_
          rintro e w' ⟨rfl, rfl⟩
          go_wp2_with fail
          go_round
          case rel => exact ⟨m + 1, by omega, by go_num, by rw [unhide HQ, unhide HS]⟩
          case measure => simp [intOf]; omega
        · cases h3 : R k m
          · have HS := hide (Hm.allB_no (p := Hm.lubD R i j k) hlt (by simp [Hm.lubD, h2, h3]))
            go_wp2_with fail
            refine (bothBelow_any _ _ _ _ _ _ _ _ hn hl hi hj hlt).mono ?_
            rintro e w' ⟨rfl, rfl⟩
            go_wp2_with fail
            refine (isBelow_any _ _ _ _ _ _ _ hn hl hk hlt).mono ?_
            rintro e w' ⟨rfl, rfl⟩
            go_wp2_with fail
            go_ret
            exact ⟨by rw [unhide HF, unhide HQ, unhide HS]; rfl, rfl⟩
          · have HS := hide (Hm.allB_yes (p := Hm.lubD R i j k) hlt (by simp [Hm.lubD, h2, h3]))
            go_wp2_with fail
            refine (bothBelow_any _ _ _ _ _ _ _ _ hn hl hi hj hlt).mono ?_
            rintro e w' ⟨rfl, rfl⟩
            go_wp2_with fail
            refine (isBelow_any _ _ _ _ _ _ _ hn hl hk hlt).mono ?_
            rintro e w' ⟨rfl, rfl⟩
            go_wp2_with fail
            go_round
            case rel => exact ⟨m + 1, by omega, by go_num, by rw [unhide HQ, unhide HS]⟩
            case measure => simp [intOf]; omega
      · have HS := hide (Hm.allB_end (p := Hm.lubD R i j k) (n := n) (k := m) (by omega))
        go_wp2_with fail
        go_ret
        exact ⟨by rw [unhide HF, unhide HQ, unhide HS]; rfl, rfl⟩

end Go.Proofs.Ytfcflnnleadpkaa
