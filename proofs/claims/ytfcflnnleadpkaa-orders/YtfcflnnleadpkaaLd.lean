import Derived.Test.YtfcflnnleadpkaaDa
namespace Go.Proofs.Ytfcflnnleadpkaa
open Go.RowKit

set_option maxHeartbeats 400000 in
theorem isDigit_any (w : World) (c lim : Int) (h0 : 0 ≤ c) (h1 : c ≤ 255) :
    Calls Try.prog 95 #[.int .u8 c, .int .i64 lim] w fun e w' => e = .returned (.bool (isDB c lim)) ∧ w' = w := by
  by_cases a1 : 48 ≤ c
  · by_cases a2 : c ≤ 57
    · by_cases a3 : c - 48 < lim
      · have HF := hide (isDB_yes ⟨a1, a2, a3⟩)
        go_enter Try.func95, Try.ntmps95
        go_wp2_with fail
        go_ret
        exact ⟨by rw [unhide HF]; rfl, rfl⟩
      · have HF := hide (isDB_no (c := c) (lim := lim) (by omega))
        have a3' : decide (c - 48 < lim) = false := by simpa using a3
        go_enter Try.func95, Try.ntmps95
        go_wp2_with fail
        go_ret
        exact ⟨by rw [unhide HF]; rfl, rfl⟩
    · have HF := hide (isDB_no (c := c) (lim := lim) (by omega))
      have a2' : decide (c ≤ 57) = false := by simpa using a2
      go_enter Try.func95, Try.ntmps95
      go_wp2_with fail
      go_ret
      exact ⟨by rw [unhide HF]; rfl, rfl⟩
  · have HF := hide (isDB_no (c := c) (lim := lim) (by omega))
    have a1' : decide (48 ≤ c) = false := by simpa using a1
    go_enter Try.func95, Try.ntmps95
    go_wp2_with fail
    go_ret
    exact ⟨by rw [unhide HF]; rfl, rfl⟩

set_option maxHeartbeats 400000 in
theorem digitAt_any (w : World) (s : ByteArray) (k : Nat) (lim : Int) :
    Calls Try.prog 64 #[.string s, .int .i64 (k : Int), .int .i64 lim] w fun e w' => e = .returned (.tuple #[.int .i64 (digV s k lim), .bool (digB s k lim)]) ∧ w' = w := by
  have a0 : decide ((k : Int) < 0) = false := by simp
  by_cases hk : k < s.size
  · have hbq := bt_eq s k hk
    have ⟨hb0, hb1⟩ := bt_bd s k
    have HB := hide (digB_yes (lim := lim) hk)
    generalize hcc : bt s k = c at *
    have HCC := hide hcc
    clear hcc
    have a1 : decide ((s.size : Int) ≤ (k : Int)) = false := by simp; omega
    have hk' : (k : Int) < (s.size : Int) := by omega
    cases hd : isDB c lim
    · have HF := hide (show digV s k lim = 0 by unfold digV; rw [unhide HB, hd]; simp)
      go_enter Try.func64, Try.ntmps64
      go_wp2_with fail
      refine (isDigit_any _ _ _ hb0 hb1).mono ?_
      rintro e w' ⟨rfl, rfl⟩
      go_wp2_with fail
      go_ret2
      exact ⟨by rw [unhide HF, unhide HB, hd]; rfl, rfl⟩
    · have ⟨g1, g2, g3⟩ := (isDB_iff c lim).1 hd
      have HF := hide (show digV s k lim = c - 48 by unfold digV; rw [unhide HB, hd, unhide HCC]; simp)
      go_enter Try.func64, Try.ntmps64
      go_wp2_with fail
      refine (isDigit_any _ _ _ hb0 hb1).mono ?_
      rintro e w' ⟨rfl, rfl⟩
      go_wp2_with fail
      go_ret2
      exact ⟨by rw [unhide HF, unhide HB, hd]; rfl, rfl⟩
  · have HB := hide (digB_no (lim := lim) hk)
    have HF := hide (show digV s k lim = 0 by unfold digV; rw [unhide HB]; simp)
    have a1 : decide ((s.size : Int) ≤ (k : Int)) = true := by simp; omega
    go_enter Try.func64, Try.ntmps64
    go_wp2_with fail
    go_ret2
    exact ⟨by rw [unhide HF, unhide HB]; rfl, rfl⟩

theorem digitAt_int (w : World) (s : ByteArray) (a lim : Int) (k : Nat) (h : a = (k : Int)) :
    Calls Try.prog 64 #[.string s, .int .i64 a, .int .i64 lim] w fun e w' => e = .returned (.tuple #[.int .i64 (digV s k lim), .bool (digB s k lim)]) ∧ w' = w := by
  subst h; exact digitAt_any w s k lim

end Go.Proofs.Ytfcflnnleadpkaa
