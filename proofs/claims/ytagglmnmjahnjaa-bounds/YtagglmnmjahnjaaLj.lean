import Derived.Test.YtagglmnmjahnjaaLi
import Derived.BigQuiet
import Derived.Deep.QuietTactic
namespace Go.Proofs.Ytagglmnmjahnjaa
open Go.RowKit

set_option maxHeartbeats 1000000 in
theorem Order_any (w : World) (s : ByteArray) :
    Calls Try.prog 8 #[.string s] w fun e w' => (∃ (a p : Int) (n : Nat), ReadPost s a p n ∧ e = .returned (.tuple #[.int .i64 a, .int .i64 p])) ∧ Below w.heap.size w w' := by
  have hz := zero_lat
  have z0 := latC_size 0 0 0 noT
  go_enter Try.func8, Try.ntmps8
  go_wp2_with fail
  refine (readLevels_any _ _).mono ?_
  rintro e w1 ⟨⟨a, p, n, hr, hn, rfl⟩, hb⟩
  have HR := hide hr
  clear hr
  generalize levT s a n = R
  have hst := store_lat (w1.alloc (.cells (latC 0 0 0 noT) 59)) w1.heap.size 0 0 0 a p n noT R (heap_alloc_last w1 _)
  rw [World.setRow_alloc_new] at hst
  have z1 := latC_size a p n R
  have c0 := latC_g0 a p n R
  have c1 := latC_g1 a p n R
  go_wp2_with fail
  go_quiet (fail)
  go_wp2_with fail
  go_ret2
  exact ⟨⟨a, p, n, unhide HR, rfl⟩, below_drewN' (hb.trans ((Below.refl _ _).alloc hb.size _)) _⟩

theorem levT_0 (s : ByteArray) (n : Nat) : levT s 0 n = cl s n := rfl

set_option maxHeartbeats 1000000 in
theorem hushJoin_any (w : World) (s : ByteArray) (x y : Int) :
    Calls Try.prog 11 #[.string s, .int .i64 x, .int .i64 y] w fun e w' => (∃ (a p : Int) (n : Nat), ReadPost s a p n ∧ e = .returned (.tuple #[.int .i64 (jV s a n x y), .int .i64 (jE a n x y)])) ∧ Below w.heap.size w w' := by
  have hz := zero_lat
  have z0 := latC_size 0 0 0 noT
  go_enter Try.func11, Try.ntmps11
  go_wp2_with fail
  refine (readLevels_any _ _).mono ?_
  rintro e w1 ⟨⟨a, p, n, hr, hn, rfl⟩, hb⟩
  have HR := hide hr
  clear hr
  by_cases ha : a = 0
  · subst ha
    rw [levT_0]
    have hst := store_lat (w1.alloc (.cells (latC 0 0 0 noT) 59)) w1.heap.size 0 0 0 0 p n noT (cl s n) (heap_alloc_last w1 _)
    rw [World.setRow_alloc_new] at hst
    have z1 := latC_size 0 p n (cl s n)
    have c0 := latC_g0 0 p n (cl s n)
    have HH := hide (latC_lat (heap_alloc_last w1 (.cells (latC 0 p n (cl s n)) 59)))
    cases h1 : decide (0 ≤ x ∧ x < (n : Int))
    · have HV := hide (show jV s 0 n x y = 0 by simp [jV, inR, h1])
      have HE := hide (show jE 0 n x y = 7 by simp [jE, inR, h1])
      go_wp2_with fail
      refine (has_any _ _ _ _ (unhide HH).cnt).mono ?_
      rintro e w' ⟨rfl, rfl⟩
      rw [h1]
      go_wp2_with fail
      go_ret2
      exact ⟨⟨0, p, n, unhide HR, by rw [unhide HV, unhide HE]; rfl⟩, hb.trans ((Below.refl _ _).alloc hb.size _)⟩
    · cases h2 : decide (0 ≤ y ∧ y < (n : Int))
      · have HV := hide (show jV s 0 n x y = 0 by simp [jV, inR, h2])
        have HE := hide (show jE 0 n x y = 7 by simp [jE, inR, h2])
        go_wp2_with fail
        refine (has_any _ _ _ _ (unhide HH).cnt).mono ?_
        rintro e w' ⟨rfl, rfl⟩
        rw [h1]
        go_wp2_with fail
        refine (has_any _ _ _ _ (unhide HH).cnt).mono ?_
        rintro e w' ⟨rfl, rfl⟩
        rw [h2]
        go_wp2_with fail
        go_ret2
        exact ⟨⟨0, p, n, unhide HR, by rw [unhide HV, unhide HE]; rfl⟩, hb.trans ((Below.refl _ _).alloc hb.size _)⟩
      · have hx : 0 ≤ x ∧ x < (n : Int) := by simpa using h1
        have hy : 0 ≤ y ∧ y < (n : Int) := by simpa using h2
        have HV := hide (show jV s 0 n x y = Hm.joinI (cl s n) n x.toNat y.toNat by simp [jV, inR, h1, h2])
        have HE := hide (show jE 0 n x y = 0 by simp [jE, inR, h1, h2])
        clear h1 h2
        obtain ⟨i, rfl⟩ := Int.eq_ofNat_of_zero_le hx.1
        obtain ⟨j, rfl⟩ := Int.eq_ofNat_of_zero_le hy.1
        have hi : i < n := by omega
        have hj : j < n := by omega
        have h1 : decide (0 ≤ (i : Int) ∧ (i : Int) < (n : Int)) = true := by simp; omega
        have h2 : decide (0 ≤ (j : Int) ∧ (j : Int) < (n : Int)) = true := by simp; omega
        clear hx hy
        go_wp2_with fail
        refine (has_any _ _ _ _ (unhide HH).cnt).mono ?_
        rintro e w' ⟨rfl, rfl⟩
        rw [h1]
        go_wp2_with fail
        refine (has_any _ _ _ _ (unhide HH).cnt).mono ?_
        rintro e w' ⟨rfl, rfl⟩
        rw [h2]
        go_wp2_with fail
        refine (join_any _ _ _ _ _ _ hn (unhide HH) hi hj).mono ?_
        rintro e w' ⟨rfl, rfl⟩
        go_wp2_with fail
        go_ret2
        exact ⟨⟨0, p, n, unhide HR, by rw [unhide HV, unhide HE]; rfl⟩, hb.trans ((Below.refl _ _).alloc hb.size _)⟩
  · have HV := hide (show jV s a n x y = 0 by simp [jV, ha])
    have HE := hide (show jE a n x y = a by simp [jE, ha])
    generalize levT s a n = R
    have hst := store_lat (w1.alloc (.cells (latC 0 0 0 noT) 59)) w1.heap.size 0 0 0 a p n noT R (heap_alloc_last w1 _)
    rw [World.setRow_alloc_new] at hst
    have z1 := latC_size a p n R
    have c0 := latC_g0 a p n R
    have ha' : (a != 0) = true := by simp [ha]
    go_wp2_with fail
    go_quiet (fail)
    go_wp2_with fail
    go_ret2
    exact ⟨⟨a, p, n, unhide HR, by rw [unhide HV, unhide HE]; rfl⟩, below_drewN' (hb.trans ((Below.refl _ _).alloc hb.size _)) _⟩

end Go.Proofs.Ytagglmnmjahnjaa
