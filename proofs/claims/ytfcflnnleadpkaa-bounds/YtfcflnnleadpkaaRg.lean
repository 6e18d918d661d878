import Derived.Test.YtfcflnnleadpkaaRf
namespace Go.Proofs.Ytfcflnnleadpkaa
open Go.RowKit

set_option maxHeartbeats 1000000 in
theorem refJoin_any (w : World) (s : ByteArray) (x y : Int) :
    Calls Try.prog 18 #[.string s, .int .i64 x, .int .i64 y] w fun e w' => (∃ (a p : Int) (n : Nat), ReadPost s a p n ∧ e = .returned (.tuple #[.int .i64 (jV s a n x y), .int .i64 (jE a n x y)])) ∧ Below w.heap.size w w' := by
  go_enter Try.func18, Try.ntmps18
  go_wp2_with fail
  refine (Read_any _ _).mono ?_
  rintro e w1 ⟨⟨a, p, n, hr, hans⟩, hb⟩
  have HR := hide hr
  have HB := hide hb
  clear hr hb
  rcases hans with ⟨ha, rfl⟩ | ⟨rfl, rfl, h1, h8, o, g, cap, rb, ho, hord, rfl⟩
  · have HV := hide (show jV s a n x y = 0 by simp [jV, ha])
    have HE := hide (show jE a n x y = a by simp [jE, ha])
    have ha' : (a != 0) = true := by simp [ha]
    clear ha
    go_wp2_with fail
    go_ret2
    exact ⟨⟨a, p, n, unhide HR, by rw [unhide HV, unhide HE]; rfl⟩, unhide HB⟩
  · have hc := hord.cn
    have HO := hide hord
    clear hord
    by_cases hx0 : x < 0
    · have HI := hide (show inR n x y = false by unfold inR; rw [decide_eq_false (by omega)]; rfl)
      have q1 : decide (x < 0) = true := by simpa using hx0
      go_wp2_with fail
      go_ret2
      exact ⟨⟨0, 0, n, unhide HR, by simp only [jV, jE, unhide HI]; rfl⟩, unhide HB⟩
    have q1 : decide (x < 0) = false := by simpa using hx0
    by_cases hx1 : (n : Int) ≤ x
    · have HI := hide (show inR n x y = false by unfold inR; rw [decide_eq_false (by omega)]; rfl)
      have q2 : decide ((n : Int) ≤ x) = true := by simpa using hx1
      go_wp2_with fail
      go_ret2
      exact ⟨⟨0, 0, n, unhide HR, by simp only [jV, jE, unhide HI]; rfl⟩, unhide HB⟩
    have q2 : decide ((n : Int) ≤ x) = false := by simpa using hx1
    by_cases hy0 : y < 0
    · have HI := hide (show inR n x y = false by unfold inR; rw [decide_eq_false (p := 0 ≤ y ∧ y < (n : Int)) (by omega)]; simp)
      have q3 : decide (y < 0) = true := by simpa using hy0
      go_wp2_with fail
      go_ret2
      exact ⟨⟨0, 0, n, unhide HR, by simp only [jV, jE, unhide HI]; rfl⟩, unhide HB⟩
    have q3 : decide (y < 0) = false := by simpa using hy0
    by_cases hy1 : (n : Int) ≤ y
    · have HI := hide (show inR n x y = false by unfold inR; rw [decide_eq_false (p := 0 ≤ y ∧ y < (n : Int)) (by omega)]; simp)
      have q4 : decide ((n : Int) ≤ y) = true := by simpa using hy1
      go_wp2_with fail
      go_ret2
      exact ⟨⟨0, 0, n, unhide HR, by simp only [jV, jE, unhide HI]; rfl⟩, unhide HB⟩
    have q4 : decide ((n : Int) ≤ y) = false := by simpa using hy1
    have HI := hide (show inR n x y = true by unfold inR; rw [decide_eq_true (p := 0 ≤ y ∧ y < (n : Int)) (by omega), decide_eq_true (by omega)]; rfl)
    obtain ⟨i, rfl⟩ := Int.eq_ofNat_of_zero_le (show 0 ≤ x by omega)
    obtain ⟨j, rfl⟩ := Int.eq_ofNat_of_zero_le (show 0 ≤ y by omega)
    have hi : i < n := by omega
    have hj : j < n := by omega
    have HV := hide (show jV s 0 n (i : Int) (j : Int) = Hm.joinI (cl s n) n i j by simp only [jV, unhide HI]; rfl)
    have HE := hide (show jE 0 n (i : Int) (j : Int) = 0 by simp only [jE, unhide HI]; rfl)
    go_wp2_with fail
    refine (Join_any _ _ _ _ _ _ _ _ _ h8 (unhide HO) hi hj).mono ?_
    rintro e w' ⟨rfl, rfl⟩
    go_wp2_with fail
    go_ret2
    exact ⟨⟨0, 0, n, unhide HR, by rw [unhide HV, unhide HE]; rfl⟩, unhide HB⟩

end Go.Proofs.Ytfcflnnleadpkaa
