import Derived.Test.YtfcflnnleadpkaaLk
namespace Go.Proofs.Ytfcflnnleadpkaa
open Go.RowKit

/-- A lattice with its joins and its bottom. -/
def fullL (n : Nat) (R : Nat → Nat → Bool) : Array Value := latJ 0 0 n R (jTo n R n 0) (fbK R (n - 1) : Nat)
/-- A lattice as 'readLevels' answers it. -/
def levA (s : ByteArray) (a p : Int) (n : Nat) : Array Value := if a = 0 then fullL n (cl s n) else latC a p n noT
def LevPost (s : ByteArray) (e : Ending) : Prop := ∃ (a p : Int) (n : Nat), ReadPost s a p n ∧ n ≤ 8 ∧ e = .returned (.agg (levA s a p n))
theorem fullL_size (n : Nat) (R : Nat → Nat → Bool) : (fullL n R).size = 132 := latJ_size _ _ _ _ _ _
theorem fullL_all (n : Nat) (R : Nat → Nat → Bool) : (fullL n R).all (·.oneCell') = true := latJ_all _ _ _ _ _ _
theorem levA_0 (s : ByteArray) (p : Int) (n : Nat) : levA s 0 p n = fullL n (cl s n) := by unfold levA; rw [if_pos rfl]
theorem levA_e (s : ByteArray) {a : Int} (h : a ≠ 0) (p : Int) (n : Nat) : levA s a p n = latC a p n noT := by unfold levA; rw [if_neg h]
theorem levA_size (s : ByteArray) (a p : Int) (n : Nat) : (levA s a p n).size = 132 := by
  unfold levA; split
  · exact fullL_size _ _
  · exact latC_size _ _ _ _
theorem levA_all (s : ByteArray) (a p : Int) (n : Nat) : (levA s a p n).all (·.oneCell') = true := by
  unfold levA; split
  · exact fullL_all _ _
  · exact latC_all _ _ _ _

set_option maxHeartbeats 1000000 in
set_option maxRecDepth 100000 in
theorem readLevels_long (w : World) (s : ByteArray) (h : 65 < s.size) :
    Calls Try.prog 32 #[.string s] w fun e w' => e = .returned (.agg (latC 1 0 0 noT)) ∧ Below w.heap.size w w' := by
  have hz := zero_lat
  have z0 := latC_size 0 0 0 noT
  have z1 := latC_size 1 0 0 noT
  have s0 := latC_set0 0 1 0 0 noT
  have s1 := latC_set1 1 0 0 0 noT
  have hgt : (65 : Int) < (s.size : Int) := by omega
  have hst := store_lat (w.alloc (.cells (latC 0 0 0 noT) 76)) w.heap.size 0 0 0 1 0 0 noT noT (heap_alloc_last w _)
  rw [World.setRow_alloc_new] at hst
  go_enter Try.func32, Try.ntmps32
  go_wp2_with fail
  refine bodyPost_ret (v := .agg (latC 1 0 0 noT)) (ret_lat Try.results32 _ _ w.heap.size _ _ _ _ rfl (heap_alloc_last w _)) rfl ⟨rfl, ?_⟩
  exact (Below.refl _ _).alloc (Nat.le_refl _) _

set_option maxHeartbeats 1000000 in
set_option maxRecDepth 100000 in
theorem readLevels_bad (w : World) (s : ByteArray) (h : s.size ≤ 65)
    (hp : ∀ w, Calls Try.prog 49 #[.string s] w fun e w' => (∃ k : Nat, BadAt s k ∧ e = .returned (.agg (latC 2 k 0 noT))) ∧ Below w.heap.size w w') :
    Calls Try.prog 32 #[.string s] w fun e w' => (∃ k : Nat, BadAt s k ∧ e = .returned (.agg (latC 2 k 0 noT))) ∧ Below w.heap.size w w' := by
  have hz := zero_lat
  have HP := hide hp
  clear hp
  have z0 := latC_size 0 0 0 noT
  have hgt : decide ((65 : Int) < (s.size : Int)) = false := by simp; omega
  go_enter Try.func32, Try.ntmps32
  go_wp2_with fail
  refine (unhide HP _).mono ?_
  rintro e w1 ⟨⟨k, hk, rfl⟩, hb⟩
  have HK := hide hk
  clear hk
  have hst := store_lat (w1.alloc (.cells (latC 0 0 0 noT) 76)) w1.heap.size 0 0 0 2 k 0 noT noT (heap_alloc_last w1 _)
  rw [World.setRow_alloc_new] at hst
  have z1 := latC_size 2 k 0 noT
  have c0 := latC_g0 2 k 0 noT
  have hsz : w.heap.size < w1.heap.size := by have := hb.size; simp at this; omega
  have g0 : (w1.alloc (.cells (latC 2 k 0 noT) 76)).heap[w.heap.size]? = some (.cells (latC 0 0 0 noT) 76) :=
    (heap_alloc_old _ _ hsz).trans ((hb.block _ (by simp)).trans (heap_alloc_last w _))
  have hst2 := store_lat _ _ 0 0 0 2 k 0 noT noT g0
  have HG := hide g0
  have HG1 := hide (heap_alloc_last w1 (.cells (latC 2 k 0 noT) 76))
  clear g0
  go_wp2_with (refine wpList_load_row rfl 76 _ rfl w1.heap.size rfl 76 _ (0, 0) _ (unhide HG1) Try.underlying76 rfl (by rw [latC_size]; exact size_lat) ?_)
  refine bodyPost_ret (v := .agg (latC 2 k 0 noT)) (ret_lat Try.results32 _ _ w.heap.size _ _ _ _ rfl (setRow_heap _ _ _ _ _ _ (unhide HG))) rfl ⟨⟨k, unhide HK, rfl⟩, ?_⟩
  exact below_setRow ((((Below.refl _ _).alloc (Nat.le_refl _) _).trans (hb.mono (by simp))).trans ((Below.refl _ _).alloc (by omega) _)) (Nat.le_refl _) _

theorem cl_refl (s : ByteArray) (n i : Nat) (hi : i < n) : cl s n i i = true := wf_refl n _ n i hi
theorem cl_well (s : ByteArray) (n : Nat) : Hm.wellC (cl s n) n = Hm.wellR (cl s n) n := Hm.well_same _ _ (fun i hi => cl_refl s n i hi)

set_option maxHeartbeats 1000000 in
set_option maxRecDepth 100000 in
theorem readLevels_good (w : World) (s : ByteArray) (n : Nat) (h : s.size ≤ 65) (h1 : 1 ≤ n) (hn : n ≤ 8)
    (hp : ∀ w, Calls Try.prog 49 #[.string s] w fun e w' => e = .returned (.agg (latC 0 0 n (pairsTo s n (s.size / 2)))) ∧ Below w.heap.size w w') :
    Calls Try.prog 32 #[.string s] w fun e w' => ((Hm.wellR (cl s n) n = true ∧ e = .returned (.agg (fullL n (cl s n)))) ∨ (Hm.wellR (cl s n) n = false ∧ e = .returned (.agg (latC 3 0 0 noT)))) ∧ Below w.heap.size w w' := by
  have hz := zero_lat
  have HP := hide hp
  clear hp
  have HN := hide hn
  have H1 := hide h1
  clear h1
  have HW := hide (cl_well s n)
  have HCL := hide (show wf n (pairsTo s n (s.size / 2)) n = cl s n from rfl)
  generalize pairsTo s n (s.size / 2) = T at *
  have z0 := latC_size 0 0 0 noT
  have hgt : decide ((65 : Int) < (s.size : Int)) = false := by simp; omega
  go_enter Try.func32, Try.ntmps32
  go_wp2_with fail
  refine (unhide HP _).mono ?_
  rintro e w1 ⟨rfl, hb⟩
  have hst := store_lat (w1.alloc (.cells (latC 0 0 0 noT) 76)) w1.heap.size 0 0 0 0 0 n noT T (heap_alloc_last w1 _)
  rw [World.setRow_alloc_new] at hst
  have z1 := latC_size 0 0 n T
  have c0 := latC_g0 0 0 n T
  have hsz : w.heap.size < w1.heap.size := by have := hb.size; simp at this; omega
  go_wp2_with fail
  refine (addSteps_any _ _ _ _ _ (unhide HN) (heap_alloc_last w1 _)).mono ?_
  rintro e w2 ⟨rfl, hw2⟩
  rw [World.setRow_alloc_new, unhide HCL] at hw2
  subst hw2
  clear hst z1 c0
  go_wp2_with fail
  refine (wellOrdered_any _ _ _ _ (unhide HN) (latC_lat (heap_alloc_last w1 _))).mono ?_
  rintro e w3 ⟨rfl, hb3⟩
  rw [unhide HW]
  have g0 : w3.heap[w.heap.size]? = some (.cells (latC 0 0 0 noT) 76) :=
    (hb3.block _ (by simp; omega)).trans ((heap_alloc_old _ _ hsz).trans ((hb.block _ (by simp)).trans (heap_alloc_last w _)))
  have g1 : w3.heap[w1.heap.size]? = some (.cells (latC 0 0 n (cl s n)) 76) := (hb3.block _ (by simp)).trans (heap_alloc_last w1 _)
  have HG := hide g0
  have HG1 := hide g1
  have HBel := hide (show Below w.heap.size w w3 from (((Below.refl _ _).alloc (Nat.le_refl _) _).trans (hb.mono (by simp))).trans (((Below.refl _ _).alloc (by omega) _).trans (hb3.mono (by simp; omega))))
  clear g1 hb3
  cases hw : Hm.wellR (cl s n) n
  · have z1 := latC_size 3 0 0 noT
    have s0 := latC_set0 0 3 0 0 noT
    have s1 := latC_set1 3 0 0 0 noT
    have hst := store_lat w3 _ 0 0 0 3 0 0 noT noT g0
    clear g0
    go_wp2_with fail
    refine bodyPost_ret (v := .agg (latC 3 0 0 noT)) (ret_lat Try.results32 _ _ w.heap.size _ _ _ _ rfl (setRow_heap _ _ _ _ _ _ (unhide HG))) rfl ⟨Or.inr ⟨hw, rfl⟩, ?_⟩
    exact below_setRow (unhide HBel) (Nat.le_refl _) _
  · clear g0
    go_wp2_with fail
    refine (keepJoins_any _ _ _ _ _ (unhide HN) (unhide HG1)).mono ?_
    rintro e w4 ⟨rfl, q, hw4⟩
    have HN1 := hide (unhide H1)
    have hne : w1.heap.size ≠ w.heap.size := by omega
    have g0 : w4.heap[w.heap.size]? = some (.cells (latC 0 0 0 noT) 76) := by
      rw [hw4]
      exact (setRow_other w3 _ _ _ (Ne.symm hne)).trans (unhide HG)
    have g1 : w4.heap[w1.heap.size]? = some (.cells (latJ 0 0 n (cl s n) (jTo n (cl s n) n 0) 0) 76) := by
      rw [hw4]
      exact setRow_heap w3 _ _ _ _ _ (unhide HG1)
    have HBel4 := hide (show Below w.heap.size w w4 by
      rw [hw4]
      exact below_drewN' (below_setRow (unhide HBel) (show w.heap.size ≤ w1.heap.size by omega) _) q)
    clear hw4 hne
    have HG4 := hide g0
    have HG41 := hide g1
    clear g0 g1
    go_wp2_with fail
    refine (findBottom_any _ _ _ _ (unhide HN1) (unhide HN) (latJ_lat (unhide HG41))).mono ?_
    rintro e w5 ⟨rfl, e5⟩
    rw [e5]
    clear e5
    have c131 : w4.cell? ⟨w1.heap.size, 131, none⟩ = some (.int .i64 0) := (rowF_cell (unhide HG41) (by omega)).trans rfl
    have f131 := frozen_of_row w4 w1.heap.size 131 _ _ (unhide HG41)
    have hset := setCell_eq_setRow w4 w1.heap.size 131 _ _ _ (.int .i64 (fbK (cl s n) (n - 1) : Nat)) (unhide HG41)
    rw [latJ_setz] at hset
    have HSet := hide hset
    clear hset
    have HG5 := hide (show (w4.setCell ⟨w1.heap.size, 131, none⟩ (.int .i64 (fbK (cl s n) (n - 1) : Nat))).heap[w1.heap.size]? = some (.cells (fullL n (cl s n)) 76) by
      rw [unhide HSet]; exact setRow_heap w4 _ _ _ _ _ (unhide HG41))
    have HG50 := (show (w4.setCell ⟨w1.heap.size, 131, none⟩ (.int .i64 (fbK (cl s n) (n - 1) : Nat))).heap[w.heap.size]? = some (.cells (latC 0 0 0 noT) 76) by
      rw [unhide HSet]; exact (setRow_other w4 _ _ _ (by omega)).trans (unhide HG4))
    have hst := store_arr size_lat _ _ _ (fullL n (cl s n)) (latC_size _ _ _ _) (fullL_size _ _) (fullL_all _ _) HG50
    have HG6 := hide HG50
    clear HG50
    have z1 := fullL_size n (cl s n)
    have HBel5 := hide (show Below w.heap.size w (w4.setCell ⟨w1.heap.size, 131, none⟩ (.int .i64 (fbK (cl s n) (n - 1) : Nat))) by
      rw [unhide HSet]; exact below_setRow (unhide HBel4) (by omega) _)
    go_wp2_with (refine wpList_load_row rfl 76 _ rfl w1.heap.size rfl 76 _ (0, 0) _ (unhide HG5) Try.underlying76 rfl (by rw [fullL_size]; exact size_lat) ?_)
    refine bodyPost_ret (v := .agg (fullL n (cl s n))) (ret_latJ Try.results32 _ _ w.heap.size _ _ _ _ _ _ rfl (setRow_heap _ _ _ _ _ _ (unhide HG6))) rfl ⟨Or.inl ⟨hw, rfl⟩, ?_⟩
    exact below_setRow (unhide HBel5) (Nat.le_refl _) _

theorem readLevels_any (w : World) (s : ByteArray) :
    Calls Try.prog 32 #[.string s] w fun e w' => LevPost s e ∧ Below w.heap.size w w' := by
  by_cases h : s.size ≤ 65
  · by_cases hf : ∃ n, FirstOk s n
    · obtain ⟨n, hf⟩ := hf
      have hn8 : n ≤ 8 := hf.2.2.2
      by_cases hgd : GoodOrd s n
      · refine (readLevels_good w s n h hf.2.2.1 hn8 (fun w => (readPairs_ok w s n hf h).mono ?_)).mono ?_
        · rintro e w' ⟨h1, h2⟩
          rcases h1 with ⟨k, h3, _⟩ | ⟨_, h3⟩
          · exact absurd h3 (fun h => Good_not_Bad hgd h)
          · exact ⟨h3, h2⟩
        · rintro e w' ⟨h1, h2⟩
          rcases h1 with ⟨h1, rfl⟩ | ⟨h1, rfl⟩
          · exact ⟨⟨0, 0, n, Or.inr (Or.inr (Or.inr ⟨h, hgd, h1, rfl, rfl⟩)), hn8, by rw [levA_0]⟩, h2⟩
          · exact ⟨⟨3, 0, 0, Or.inr (Or.inr (Or.inl ⟨h, n, hgd, h1, rfl, rfl, rfl⟩)), by omega, by rw [levA_e _ (by omega)]; rfl⟩, h2⟩
      · refine (readLevels_bad w s h (fun w => (readPairs_ok w s n hf h).mono ?_)).mono ?_
        · rintro e w' ⟨h1, h2⟩
          rcases h1 with h3 | ⟨h3, _⟩
          · exact ⟨h3, h2⟩
          · exact absurd h3 hgd
        · rintro e w' ⟨⟨k, h1, rfl⟩, h2⟩
          exact ⟨⟨2, k, 0, Or.inr (Or.inl ⟨h, k, h1, rfl, rfl, rfl⟩), by omega, by rw [levA_e _ (by omega)]; rfl⟩, h2⟩
    · have hf' : ∀ n, ¬ FirstOk s n := fun n hn => hf ⟨n, hn⟩
      refine (readLevels_bad w s h (fun w => (readPairs_bad0 w s hf').mono ?_)).mono ?_
      · rintro e w' ⟨h1, h2⟩
        exact ⟨⟨0, Or.inl ⟨rfl, hf'⟩, h1⟩, h2⟩
      · rintro e w' ⟨⟨k, h1, rfl⟩, h2⟩
        exact ⟨⟨2, k, 0, Or.inr (Or.inl ⟨h, k, h1, rfl, rfl, rfl⟩), by omega, by rw [levA_e _ (by omega)]; rfl⟩, h2⟩
  · refine (readLevels_long w s (by omega)).mono ?_
    rintro e w' ⟨rfl, h2⟩
    exact ⟨⟨1, 0, 0, Or.inl ⟨by omega, rfl, rfl, rfl⟩, by omega, by rw [levA_e _ (by omega)]; rfl⟩, h2⟩

end Go.Proofs.Ytfcflnnleadpkaa
