import Derived.Test.YtfcflnnleadpkaaDa
namespace Go.Proofs.Ytfcflnnleadpkaa
open Go.RowKit

def dgt (c n : Int) : Int := if isDB c n = true then c - 48 else -1
theorem dgt_no {c n : Int} (h : ¬ (48 ≤ c ∧ c ≤ 57 ∧ c - 48 < n)) : dgt c n = -1 := by unfold dgt; rw [isDB_no h]; rfl
theorem dgt_yes {c n : Int} (h : 48 ≤ c ∧ c ≤ 57 ∧ c - 48 < n) : dgt c n = c - 48 := by unfold dgt; rw [isDB_yes h]; rfl

set_option maxHeartbeats 400000 in
theorem digit_any (w : World) (c n : Int) (h0 : 0 ≤ c) (h1 : c ≤ 255) :
    Calls Try.prog 45 #[.int .u8 c, .int .i64 n] w fun e w' => e = .returned (.int .i64 (dgt c n)) ∧ w' = w := by
  by_cases a1 : c < 48
  · have HF := hide (dgt_no (c := c) (n := n) (by omega))
    have b1 : decide (c - 48 < 0) = true := by simp; omega
    go_enter Try.func45, Try.ntmps45
    go_wp2_with fail
    go_ret
    exact ⟨by rw [unhide HF]; rfl, rfl⟩
  have b1 : decide (c - 48 < 0) = false := by simp; omega
  by_cases a2 : n ≤ c - 48
  · have HF := hide (dgt_no (c := c) (n := n) (by omega))
    have b2 : decide (n ≤ c - 48) = true := by simp; omega
    go_enter Try.func45, Try.ntmps45
    go_wp2_with fail
    go_ret
    exact ⟨by rw [unhide HF]; rfl, rfl⟩
  have b2 : decide (n ≤ c - 48) = false := by simp; omega
  by_cases a3 : 9 < c - 48
  · have HF := hide (dgt_no (c := c) (n := n) (by omega))
    have b3 : decide (9 < c - 48) = true := by simp; omega
    go_enter Try.func45, Try.ntmps45
    go_wp2_with fail
    go_ret
    exact ⟨by rw [unhide HF]; rfl, rfl⟩
  have b3 : decide (9 < c - 48) = false := by simp; omega
  have HF := hide (dgt_yes (c := c) (n := n) (by omega))
  go_enter Try.func45, Try.ntmps45
  go_wp2_with fail
  go_ret
  exact ⟨by rw [unhide HF]; rfl, rfl⟩

end Go.Proofs.Ytfcflnnleadpkaa
