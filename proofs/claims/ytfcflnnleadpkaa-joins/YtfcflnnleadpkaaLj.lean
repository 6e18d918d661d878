import Derived.Test.YtfcflnnleadpkaaLn
import Derived.BigQuiet
import Derived.Deep.QuietTactic
namespace Go.Proofs.Ytfcflnnleadpkaa
open Go.RowKit

set_option maxHeartbeats 1000000 in
set_option maxRecDepth 100000 in
theorem Order_any (w : World) (s : ByteArray) :
    Calls Try.prog 14 #[.string s] w fun e w' => (∃ (a p : Int) (n : Nat), ReadPost s a p n ∧ e = .returned (.tuple #[.int .i64 a, .int .i64 p])) ∧ Below w.heap.size w w' := by
  have hz := zero_lat
  have z0 := latC_size 0 0 0 noT
  go_enter Try.func14, Try.ntmps14
  go_wp2_with fail
  refine (readLevels_any _ _).mono ?_
  rintro e w1 ⟨⟨a, p, n, hr, hn, rfl⟩, hb⟩
  have HR := hide hr
  have hr2 := ReadPost_p0 hr
  clear hr
  have hst := store_arr size_lat (w1.alloc (.cells (latC 0 0 0 noT) 76)) w1.heap.size _ (levA s a p n) (latC_size _ _ _ _) (levA_size _ _ _ _) (levA_all _ _ _ _) (heap_alloc_last w1 _)
  rw [World.setRow_alloc_new] at hst
  have z1 := levA_size s a p n
  have c0 := levA_g0 s (n := n) hr2
  have c1 := levA_g1 s (n := n) hr2
  go_wp2_with fail
  go_quiet (fail)
  go_wp2_with fail
  go_ret2
  exact ⟨⟨a, p, n, unhide HR, rfl⟩, below_drewN' (hb.trans ((Below.refl _ _).alloc hb.size _)) _⟩

set_option maxHeartbeats 1000000 in
set_option maxRecDepth 100000 in
theorem hushJoin_any (w : World) (s : ByteArray) (x y : Int) :
    Calls Try.prog 17 #[.string s, .int .i64 x, .int .i64 y] w fun e w' => (∃ (a p : Int) (n : Nat), ReadPost s a p n ∧ e = .returned (.tuple #[.int .i64 (jV s a n x y), .int .i64 (jE a n x y)])) ∧ Below w.heap.size w w' := by
  have hz := zero_lat
  have z0 := latC_size 0 0 0 noT
  go_enter Try.func17, Try.ntmps17
  go_wp2_with fail
  refine (readLevels_any _ _).mono ?_
  rintro e w1 ⟨⟨a, p, n, hr, hn, rfl⟩, hb⟩
  have HR := hide hr
  clear hr
  by_cases ha : a = 0
  · subst ha
    rw [levA_0]
    have hst := store_arr size_lat (w1.alloc (.cells (latC 0 0 0 noT) 76)) w1.heap.size _ (fullL n (cl s n)) (latC_size _ _ _ _) (fullL_size _ _) (fullL_all _ _) (heap_alloc_last w1 _)
    rw [World.setRow_alloc_new] at hst
    have z1 := fullL_size n (cl s n)
    have c0 := fullL_g0 n (cl s n)
    have HH0 := hide (heap_alloc_last w1 (.cells (fullL n (cl s n)) 76))
    have HH := hide (fullL_lat (unhide HH0))
    cases h1 : decide (0 ≤ x ∧ x < (n : Int))
    · have HV := hide (show jV s 0 n x y = 0 by simp [jV, inR, h1])
      have HE := hide (show jE 0 n x y = 7 by simp [jE, inR, h1])
      go_wp2_with fail
      refine (has_any _ _ 0 _ _ (unhide HH).cnt).mono ?_
      rintro e w' ⟨rfl, rfl⟩
      rw [h1]
      go_wp2_with fail
      go_ret2
      exact ⟨⟨0, p, n, unhide HR, by rw [unhide HV, unhide HE]; rfl⟩, hb.trans ((Below.refl _ _).alloc hb.size _)⟩
    · cases h2 : decide (0 ≤ y ∧ y < (n : Int))
      · have HV := hide (show jV s 0 n x y = 0 by simp [jV, inR, h2])
        have HE := hide (show jE 0 n x y = 7 by simp [jE, inR, h2])
        go_wp2_with fail
        refine (has_any _ _ 0 _ _ (unhide HH).cnt).mono ?_
        rintro e w' ⟨rfl, rfl⟩
        rw [h1]
        go_wp2_with fail
        refine (has_any _ _ 0 _ _ (unhide HH).cnt).mono ?_
        rintro e w' ⟨rfl, rfl⟩
        rw [h2]
        go_wp2_with fail
        go_ret2
        exact ⟨⟨0, p, n, unhide HR, by rw [unhide HV, unhide HE]; rfl⟩, hb.trans ((Below.refl _ _).alloc hb.size _)⟩
      · have hx : 0 ≤ x ∧ x < (n : Int) := by simpa using h1
        have hy : 0 ≤ y ∧ y < (n : Int) := by simpa using h2
        have HV := hide (show jV s 0 n x y = Hm.joinI (cl s n) n x.toNat y.toNat by simp [jV, inR, h1, h2])
        have HE := hide (show jE 0 n x y = 0 by simp [jE, inR, h1, h2])
        clear h1 h2
        obtain ⟨i, rfl⟩ := Int.eq_ofNat_of_zero_le hx.1
        obtain ⟨j, rfl⟩ := Int.eq_ofNat_of_zero_le hy.1
        have hi : i < n := by omega
        have hj : j < n := by omega
        have h1 : decide (0 ≤ (i : Int) ∧ (i : Int) < (n : Int)) = true := by simp; omega
        have h2 : decide (0 ≤ (j : Int) ∧ (j : Int) < (n : Int)) = true := by simp; omega
        clear hx hy
        go_wp2_with fail
        refine (has_any _ _ 0 _ _ (unhide HH).cnt).mono ?_
        rintro e w' ⟨rfl, rfl⟩
        rw [h1]
        go_wp2_with fail
        refine (has_any _ _ 0 _ _ (unhide HH).cnt).mono ?_
        rintro e w' ⟨rfl, rfl⟩
        rw [h2]
        go_wp2_with fail
        refine (join_any _ _ 0 _ _ _ _ _ hn (unhide HH) (fullL_jo (unhide HH0) hi hj hn) hi hj).mono ?_
        rintro e w' ⟨rfl, rfl⟩
        go_wp2_with fail
        go_ret2
        exact ⟨⟨0, p, n, unhide HR, by rw [unhide HV, unhide HE]; rfl⟩, hb.trans ((Below.refl _ _).alloc hb.size _)⟩
  · have HV := hide (show jV s a n x y = 0 by simp [jV, ha])
    have HE := hide (show jE a n x y = a by simp [jE, ha])
    rw [levA_e s ha]
    have hst := store_lat (w1.alloc (.cells (latC 0 0 0 noT) 76)) w1.heap.size 0 0 0 a p n noT noT (heap_alloc_last w1 _)
    rw [World.setRow_alloc_new] at hst
    have z1 := latC_size a p n noT
    have c0 := latC_g0 a p n noT
    have ha' : (a != 0) = true := by simp [ha]
    go_wp2_with fail
    go_quiet (fail)
    go_wp2_with fail
    go_ret2
    exact ⟨⟨a, p, n, unhide HR, by rw [unhide HV, unhide HE]; rfl⟩, below_drewN' (hb.trans ((Below.refl _ _).alloc hb.size _)) _⟩

end Go.Proofs.Ytfcflnnleadpkaa
