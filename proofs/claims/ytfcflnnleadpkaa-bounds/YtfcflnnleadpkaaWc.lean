import Derived.Test.YtfcflnnleadpkaaWb
namespace Go.Proofs.Ytfcflnnleadpkaa
open Go.RowKit

theorem Ord.below {w w' : World} {o g cap n : Nat} {rb : Nat → Nat} {R : Nat → Nat → Bool} (h : Ord w o g cap n rb R) (hb : Below w.heap.size w w') : Ord w' o g cap n rb R := by
  have k : ∀ a v, w.cell? a = some v → w'.cell? a = some v := fun a v hv => (hb.cell (World.block_lt_of_cell? w a hv)).trans hv
  exact ⟨k _ _ h.cn, k _ _ h.cb, fun i hi => k _ _ (h.row i hi), fun i j hi hj => k _ _ (h.bel i j hi hj)⟩
theorem Read_at (w : World) (s : ByteArray) (a p : Int) (n : Nat) (hr : ReadPost s a p n) :
    Calls Try.prog 15 #[.string s] w fun e w' => ((a ≠ 0 ∧ e = .returned (.tuple #[.pointer none, .int .i64 a, .int .i64 p])) ∨
     (a = 0 ∧ p = 0 ∧ 1 ≤ n ∧ n ≤ 8 ∧ ∃ o g cap rb, w.heap.size ≤ o ∧ Ord w' o g cap n rb (cl s n) ∧ e = .returned (.tuple #[.pointer (some ⟨o, 0, none⟩), .int .i64 0, .int .i64 0]))) ∧ Below w.heap.size w w' := by
  refine (Read_any w s).mono ?_
  rintro e w' ⟨⟨a', p', n', hr', hans⟩, hb⟩
  obtain ⟨rfl, rfl, rfl⟩ := ReadPost_uniq hr hr'
  exact ⟨hans, hb⟩
theorem ReadPost_well {s : ByteArray} {p : Int} {n : Nat} (h : ReadPost s 0 p n) : Hm.wellR (cl s n) n = true := by
  rcases h with ⟨_, h, _⟩ | ⟨_, k, _, h, _⟩ | ⟨_, m, _, _, h, _⟩ | ⟨_, _, h, _, _⟩
  · omega
  · omega
  · omega
  · exact h

theorem jVE {s : ByteArray} {n u v c : Nat} (hu : u < n) (hv : v < n) (h : Hm.joinI (cl s n) n u v = (c : Int)) : jV s 0 n (u : Int) (v : Int) = (c : Int) ∧ jE 0 n (u : Int) (v : Int) = 0 := by
  have hin : inR n (u : Int) (v : Int) = true := by
    unfold inR; rw [decide_eq_true (p := 0 ≤ (v : Int) ∧ (v : Int) < (n : Int)) (by omega), decide_eq_true (by omega)]; rfl
  constructor
  · simp only [jV, hin]; exact h
  · simp only [jE, hin]; rfl
theorem hushJoin_ok (w : World) (s : ByteArray) (p : Int) (n : Nat) (hr : ReadPost s 0 p n) {u v c : Nat} (hu : u < n) (hv : v < n) (h : Hm.joinI (cl s n) n u v = (c : Int)) :
    Calls Try.prog 17 #[.string s, .int .i64 (u : Int), .int .i64 (v : Int)] w fun e w' => e = .returned (.tuple #[.int .i64 (c : Int), .int .i64 0]) ∧ Below w.heap.size w w' := by
  refine (hushJoin_at w s 0 p n hr _ _).mono ?_
  rintro e w' ⟨rfl, hb⟩
  rw [(jVE hu hv h).1, (jVE hu hv h).2]
  exact ⟨rfl, hb⟩

set_option maxHeartbeats 2000000 in
set_option maxRecDepth 100000 in
theorem Bounds_err (w : World) (s : ByteArray) (x y z : Int) (a p : Int) (n : Nat) (hr : ReadPost s a p n) (ha : a ≠ 0) :
    Calls Try.prog 5 #[.string s, .int .i64 x, .int .i64 y, .int .i64 z] w fun e w' => e = .returned (.bool true) ∧ Below w.heap.size w w' := by
  have HR := hide hr
  have HV := hide (show ∀ x y, jV s a n x y = 0 by intro x y; simp [jV, ha])
  have HE := hide (show ∀ x y, jE a n x y = a by intro x y; simp [jE, ha])
  have HO : Hid (∀ w, Calls Try.prog 14 #[.string s] w fun e w' => e = .returned (.tuple #[.int .i64 a, .int .i64 p]) ∧ Below w.heap.size w w') := by
    intro w
    refine (Order_any w s).mono ?_
    rintro e w' ⟨⟨a', p', n', hr', rfl⟩, hb⟩
    obtain ⟨rfl, rfl, rfl⟩ := ReadPost_uniq hr hr'
    exact ⟨rfl, hb⟩
  have hne : (a != 0) = true := by simp [ha]
  clear hr
  have HA := hide ha
  clear ha
  go_enter Try.func5, Try.ntmps5
  go_wp2_with fail
  refine (unhide HO _).mono ?_
  rintro e w1 ⟨rfl, hb1⟩
  go_wp2_with fail
  refine (hushJoin_at _ _ _ _ _ (unhide HR) _ _).mono ?_
  rintro e w2 ⟨rfl, hb2⟩
  rw [unhide HV, unhide HE]
  go_wp2_with fail
  refine (hushJoin_at _ _ _ _ _ (unhide HR) _ _).mono ?_
  rintro e w3 ⟨rfl, hb3⟩
  rw [unhide HV, unhide HE]
  go_wp2_with fail
  refine (Read_at _ _ _ _ _ (unhide HR)).mono ?_
  rintro e w4 ⟨hans, hb4⟩
  have HB := hide (show Below w.heap.size w w4 from hb1.trans ((hb2.mono hb1.size).trans ((hb3.mono (Nat.le_trans hb1.size hb2.size)).trans (hb4.mono (Nat.le_trans hb1.size (Nat.le_trans hb2.size hb3.size))))))
  clear hb1 hb2 hb3 hb4
  rcases hans with ⟨_, rfl⟩ | ⟨h0, _⟩
  · go_wp2_with (go_at_call 16; refine (num_any _ _).mono ?_; rintro e w' ⟨rfl, rfl⟩)
    go_ret
    exact ⟨rfl, unhide HB⟩
  · exact absurd h0 (unhide HA)

set_option maxHeartbeats 4000000 in
set_option maxRecDepth 100000 in
theorem Bounds_ok (w : World) (s : ByteArray) (x y z : Int) (p : Int) (n : Nat) (hr : ReadPost s 0 p n) :
    Calls Try.prog 5 #[.string s, .int .i64 x, .int .i64 y, .int .i64 z] w fun e w' => e = .returned (.bool true) ∧ Below w.heap.size w w' := by
  have HR := hide hr
  have HW := hide (cl_lattice s n (ReadPost_well hr))
  have HO : Hid (∀ w, Calls Try.prog 14 #[.string s] w fun e w' => e = .returned (.tuple #[.int .i64 0, .int .i64 p]) ∧ Below w.heap.size w w') := by
    intro w
    refine (Order_any w s).mono ?_
    rintro e w' ⟨⟨a', p', n', hr', rfl⟩, hb⟩
    obtain ⟨rfl, rfl, rfl⟩ := ReadPost_uniq hr hr'
    exact ⟨rfl, hb⟩
  clear hr
  have HI := hide (show inR n y x = inR n x y by unfold inR; rw [Bool.and_comm])
  go_enter Try.func5, Try.ntmps5
  go_wp2_with fail
  refine (unhide HO _).mono ?_
  rintro e w1 ⟨rfl, hb1⟩
  go_wp2_with fail
  refine (hushJoin_at _ _ _ _ _ (unhide HR) _ _).mono ?_
  rintro e w2 ⟨rfl, hb2⟩
  go_wp2_with fail
  refine (hushJoin_at _ _ _ _ _ (unhide HR) _ _).mono ?_
  rintro e w3 ⟨rfl, hb3⟩
  go_wp2_with fail
  refine (Read_at _ _ _ _ _ (unhide HR)).mono ?_
  rintro e w4 ⟨hans, hb4⟩
  have HB := hide (show Below w.heap.size w w4 from hb1.trans ((hb2.mono hb1.size).trans ((hb3.mono (Nat.le_trans hb1.size hb2.size)).trans (hb4.mono (Nat.le_trans hb1.size (Nat.le_trans hb2.size hb3.size))))))
  clear hb1 hb2 hb3 hb4
  rcases hans with ⟨h0, _⟩ | ⟨_, rfl, h1, h8, o, g, cap, rb, ho, hord, rfl⟩
  · exact absurd rfl h0
  have hcn := hord.cn
  have HD := hide hord
  clear hord
  by_cases hin : inR n x y = true
  · have hx : 0 ≤ x ∧ x < (n : Int) := by unfold inR at hin; simp at hin; omega
    have hy : 0 ≤ y ∧ y < (n : Int) := by unfold inR at hin; simp at hin; omega
    obtain ⟨i, rfl⟩ := Int.eq_ofNat_of_zero_le hx.1
    obtain ⟨j, rfl⟩ := Int.eq_ofNat_of_zero_le hy.1
    have hi : i < n := by omega
    have hj : j < n := by omega
    have E1 := show jE 0 n (i : Int) (j : Int) = 0 by simp only [jE, hin]; rfl
    have E2 := show jE 0 n (j : Int) (i : Int) = 0 by simp only [jE, unhide HI, hin]; rfl
    rw [E1, E2]
    clear hx hy
    have q1 : decide ((i : Int) < 0) = false := by simp
    have q2 : decide ((n : Int) ≤ (i : Int)) = false := by simp; omega
    have q3 : decide ((j : Int) < 0) = false := by simp
    have q4 : decide ((n : Int) ≤ (j : Int)) = false := by simp; omega
    by_cases hz0 : z < 0
    · have q5 : decide (z < 0) = true := by simpa using hz0
      clear hin E1 E2
      generalize jV s 0 n (i : Int) (j : Int) = v1
      generalize jV s 0 n (j : Int) (i : Int) = v2
      go_wp2_with (go_at_call 16; refine (num_any _ _).mono ?_; rintro e w' ⟨rfl, rfl⟩)
      go_ret
      exact ⟨rfl, unhide HB⟩
    have q5 : decide (z < 0) = false := by simpa using hz0
    by_cases hz1 : (n : Int) ≤ z
    · have q6 : decide ((n : Int) ≤ z) = true := by simpa using hz1
      clear hin E1 E2
      generalize jV s 0 n (i : Int) (j : Int) = v1
      generalize jV s 0 n (j : Int) (i : Int) = v2
      go_wp2_with (go_at_call 16; refine (num_any _ _).mono ?_; rintro e w' ⟨rfl, rfl⟩)
      go_ret
      exact ⟨rfl, unhide HB⟩
    have q6 : decide ((n : Int) ≤ z) = false := by simpa using hz1
    obtain ⟨k, rfl⟩ := Int.eq_ofNat_of_zero_le (show 0 ≤ z by omega)
    have hk : k < n := by omega
    clear hz0 hz1 hin E1 E2
    obtain ⟨ab, bc, t, hab, hbc, ht, j1, j2, j3, j4, j5, j6, j7, r1, r2⟩ := (unhide HW).bounds hi hj hk
    rw [(jVE hi hj j1).1, (jVE hj hi j2).1]
    have J1 := hide j1
    have J3 := hide j3
    have J4 := hide j4
    have J5 := hide j5
    have J6 := hide j6
    have J7 := hide j7
    have RR := hide (And.intro r1 r2)
    clear j1 j2 j3 j4 j5 j6 j7 r1 r2
    go_wp2_with (go_at_call 16; refine (num_any _ _).mono ?_; rintro e w' ⟨rfl, rfl⟩)
    refine (hushJoin_ok _ _ _ _ (unhide HR) hi hi (unhide J3)).mono ?_
    rintro e w5 ⟨rfl, hb5⟩
    go_wp2_with fail
    refine (hushJoin_ok _ _ _ _ (unhide HR) hj hk (unhide J4)).mono ?_
    rintro e w6 ⟨rfl, hb6⟩
    go_wp2_with fail
    refine (hushJoin_ok _ _ _ _ (unhide HR) hab hk (unhide J5)).mono ?_
    rintro e w7 ⟨rfl, hb7⟩
    go_wp2_with fail
    refine (hushJoin_ok _ _ _ _ (unhide HR) hi hbc (unhide J6)).mono ?_
    rintro e w8 ⟨rfl, hb8⟩
    go_wp2_with fail
    refine (hushJoin_ok _ _ _ _ (unhide HR) hi hab (unhide J7)).mono ?_
    rintro e w9 ⟨rfl, hb9⟩
    have hd := (((((unhide HD).below hb5).below hb6).below hb7).below hb8).below hb9
    have HB9 := hide (show Below w.heap.size w w9 from (unhide HB).trans (((hb5.trans ((hb6.mono hb5.size).trans ((hb7.mono (Nat.le_trans hb5.size hb6.size)).trans ((hb8.mono (Nat.le_trans hb5.size (Nat.le_trans hb6.size hb7.size))).trans (hb9.mono (Nat.le_trans hb5.size (Nat.le_trans hb6.size (Nat.le_trans hb7.size hb8.size)))))))).mono (unhide HB).size)))
    have o1 := hd.cb
    have o2 := hd.row i hi
    have o3 := hd.row j hj
    have o4 := hd.bel i ab hi hab
    have o5 := hd.bel j ab hj hab
    rw [(unhide RR).1] at o4
    rw [(unhide RR).2] at o5
    clear hd hb5 hb6 hb7 hb8 hb9 hcn
    go_wp2_with (go_at_call 16; refine (num_any _ _).mono ?_; rintro e w' ⟨rfl, rfl⟩)
    go_ret
    exact ⟨rfl, unhide HB9⟩
  · have HN := hide hin
    have E1 := show jE 0 n x y = 7 by simp only [jE, hin]; rfl
    have E2 := show jE 0 n y x = 7 by simp only [jE, unhide HI, hin]; rfl
    have V1 := show jV s 0 n x y = 0 by simp only [jV, hin]; rfl
    have V2 := show jV s 0 n y x = 0 by simp only [jV, unhide HI, hin]; rfl
    rw [E1, E2, V1, V2]
    clear E1 E2 V1 V2 hin
    by_cases hx0 : x < 0
    · have q1 : decide (x < 0) = true := by simpa using hx0
      go_wp2_with (go_at_call 16; refine (num_any _ _).mono ?_; rintro e w' ⟨rfl, rfl⟩)
      go_ret
      exact ⟨rfl, unhide HB⟩
    have q1 : decide (x < 0) = false := by simpa using hx0
    by_cases hx1 : (n : Int) ≤ x
    · have q2 : decide ((n : Int) ≤ x) = true := by simpa using hx1
      go_wp2_with (go_at_call 16; refine (num_any _ _).mono ?_; rintro e w' ⟨rfl, rfl⟩)
      go_ret
      exact ⟨rfl, unhide HB⟩
    have q2 : decide ((n : Int) ≤ x) = false := by simpa using hx1
    by_cases hy0 : y < 0
    · have q3 : decide (y < 0) = true := by simpa using hy0
      go_wp2_with (go_at_call 16; refine (num_any _ _).mono ?_; rintro e w' ⟨rfl, rfl⟩)
      go_ret
      exact ⟨rfl, unhide HB⟩
    have q3 : decide (y < 0) = false := by simpa using hy0
    by_cases hy1 : (n : Int) ≤ y
    · have q4 : decide ((n : Int) ≤ y) = true := by simpa using hy1
      go_wp2_with (go_at_call 16; refine (num_any _ _).mono ?_; rintro e w' ⟨rfl, rfl⟩)
      go_ret
      exact ⟨rfl, unhide HB⟩
    exact absurd (show inR n x y = true by unfold inR; rw [decide_eq_true (p := 0 ≤ y ∧ y < (n : Int)) (by omega), decide_eq_true (by omega)]; rfl) (unhide HN)

theorem ReadPost_all (s : ByteArray) : ∃ a p n, ReadPost s a p n := by
  by_cases h : s.size ≤ 65
  · by_cases hf : ∃ n, FirstOk s n
    · obtain ⟨n, hf⟩ := hf
      by_cases hg : GoodOrd s n
      · cases hw : Hm.wellR (cl s n) n
        · exact ⟨3, 0, 0, Or.inr (Or.inr (Or.inl ⟨h, n, hg, hw, rfl, rfl, rfl⟩))⟩
        · exact ⟨0, 0, n, Or.inr (Or.inr (Or.inr ⟨h, hg, hw, rfl, rfl⟩))⟩
      · obtain ⟨k, hk⟩ := BadAt_of hf hg
        exact ⟨2, k, 0, Or.inr (Or.inl ⟨h, k, hk, rfl, rfl, rfl⟩)⟩
    · exact ⟨2, 0, 0, Or.inr (Or.inl ⟨h, 0, Or.inl ⟨rfl, fun n hn => hf ⟨n, hn⟩⟩, rfl, rfl, rfl⟩)⟩
  · exact ⟨1, 0, 0, Or.inl ⟨by omega, rfl, rfl, rfl⟩⟩
theorem Bounds_walk (w : World) (s : ByteArray) (x y z : Int) :
    Calls Try.prog 5 #[.string s, .int .i64 x, .int .i64 y, .int .i64 z] w fun e w' => e = .returned (.bool true) ∧ Below w.heap.size w w' := by
  obtain ⟨a, p, n, hr⟩ := ReadPost_all s
  by_cases ha : a = 0
  · subst ha
    exact Bounds_ok w s x y z p n hr
  · exact Bounds_err w s x y z a p n hr ha

end Go.Proofs.Ytfcflnnleadpkaa
