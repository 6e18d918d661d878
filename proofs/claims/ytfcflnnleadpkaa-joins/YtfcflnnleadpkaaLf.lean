import Derived.Test.YtfcflnnleadpkaaLe
import Derived.Test.YtfcflnnleadpkaaDb
import Derived.Laws.CopyOwn
namespace Go.Proofs.Ytfcflnnleadpkaa
open Go.RowKit

set_option maxHeartbeats 1000000 in
set_option maxRecDepth 100000 in
theorem readPairs_bad0 (w : World) (s : ByteArray) (h : ∀ n, ¬ FirstOk s n) :
    Calls Try.prog 49 #[.string s] w fun e w' => e = .returned (.agg (latC 2 0 0 noT)) ∧ Below w.heap.size w w' := by
  have hz := zero_lat
  have HB := hide (heap_alloc_last w (.cells (latC 0 0 0 noT) 76))
  cases hd : digB s 0 9
  · go_enter Try.func49, Try.ntmps49
    go_wp2_with fail
    refine (digitAt_int _ _ _ _ 0 rfl).mono ?_
    rintro e w' ⟨rfl, rfl⟩
    go_wp2_with fail
    refine (noOrder_any _ _).mono ?_
    rintro e w1 ⟨rfl, hb⟩
    have hg1 := (hb.block w.heap.size (by simp)).trans (unhide HB)
    have hst := store_lat w1 w.heap.size 0 0 0 2 0 0 noT noT hg1
    have HG := hide hg1
    clear hg1
    go_wp2_with fail
    refine bodyPost_ret (v := .agg (latC 2 0 0 noT)) (ret_lat Try.results49 _ _ w.heap.size _ _ _ _ rfl (setRow_heap _ _ _ _ _ _ (unhide HG))) rfl ⟨rfl, ?_⟩
    exact below_setRow (((Below.refl _ _).alloc (Nat.le_refl _) _).trans (hb.mono (by simp))) (Nat.le_refl _) _
  · have HD := hide hd
    have hd0 : digV s 0 9 = 0 := by
      have h1 := digV_bd (n := 9) hd
      obtain ⟨i, h1, h2, h3, h4⟩ := h1
      rcases Nat.eq_zero_or_pos i with e | e
      · have : digV s 0 ((9 : Nat) : Int) = digV s 0 9 := rfl
        rw [← this, h1, e]; rfl
      · exact absurd ⟨hd, h1, e, by omega⟩ (h i)
    have he : (digV s 0 9 == 0) = true := by rw [hd0]; rfl
    clear hd0
    go_enter Try.func49, Try.ntmps49
    go_wp2_with fail
    refine (digitAt_int _ _ _ _ 0 rfl).mono ?_
    rintro e w' ⟨rfl, rfl⟩
    go_wp2_with fail
    refine (noOrder_any _ _).mono ?_
    rintro e w1 ⟨rfl, hb⟩
    have hg1 := (hb.block w.heap.size (by simp)).trans (unhide HB)
    have hst := store_lat w1 w.heap.size 0 0 0 2 0 0 noT noT hg1
    have HG := hide hg1
    clear hg1
    go_wp2_with fail
    refine bodyPost_ret (v := .agg (latC 2 0 0 noT)) (ret_lat Try.results49 _ _ w.heap.size _ _ _ _ rfl (setRow_heap _ _ _ _ _ _ (unhide HG))) rfl ⟨rfl, ?_⟩
    exact below_setRow (((Below.refl _ _).alloc (Nat.le_refl _) _).trans (hb.mono (by simp))) (Nat.le_refl _) _

/-- What reading the pairs comes to. -/
def PairsPost (s : ByteArray) (n : Nat) (e : Ending) : Prop :=
  (∃ k : Nat, BadAt s k ∧ e = .returned (.agg (latC 2 k 0 noT))) ∨ (GoodOrd s n ∧ e = .returned (.agg (latC 0 0 n (pairsTo s n (s.size / 2)))))

set_option maxHeartbeats 2000000 in
set_option maxRecDepth 100000 in
theorem readPairs_ok (w : World) (s : ByteArray) (n : Nat) (h : FirstOk s n) (hsz : s.size ≤ 65) :
    Calls Try.prog 49 #[.string s] w fun e w' => PairsPost s n e ∧ Below w.heap.size w w' := by
  have hz := zero_lat
  have HO := hide h
  obtain ⟨hd, hv, h1, h8⟩ := h
  have hv9 : digV s 0 9 = (n : Int) := hv
  have hn0 : (((n : Int)) == 0) = false := by simp; omega
  have z0 := latC_size 0 0 0 noT
  have z1 := latC_size 0 0 n noT
  have s0 := latC_set2 0 0 0 n noT
  have hst := store_lat ((w.alloc (.cells (latC 0 0 0 noT) 76)).alloc (.cells (latC 0 0 0 noT) 76)) (w.heap.size + 1) 0 0 0 0 0 n noT noT (by have := heap_alloc_last (w.alloc (.cells (latC 0 0 0 noT) 76)) (.cells (latC 0 0 0 noT) 76); simpa using this)
  rw [show w.heap.size + 1 = (w.alloc (.cells (latC 0 0 0 noT) 76)).heap.size by simp, World.setRow_alloc_new] at hst
  rw [show (w.alloc (.cells (latC 0 0 0 noT) 76)).heap.size = w.heap.size + 1 by simp] at hst
  have HS1 : Hid (1 ≤ s.size) := by
    obtain ⟨i, g1, g2, g3, g4⟩ := digV_bd (n := 9) hd
    exact hide g4
  go_enter Try.func49, Try.ntmps49
  go_wp2_with fail
  refine (digitAt_int _ _ _ _ 0 rfl).mono ?_
  rintro e w' ⟨rfl, rfl⟩
  go_wp2_with fail
  clear hst s0 z1 hv9 hv hd hn0
  go_loopw [6] (fun d wr => ∃ k m : Nat, k = 2 * m + 1 ∧ k ≤ s.size ∧ (∀ i, 1 ≤ i → i < k → digB s i n = true) ∧ d = .int .i64 (k : Int) ∧ wr = (w.alloc (.cells (latC 0 0 0 noT) 76)).alloc (.cells (latC 0 0 n (pairsTo s n m)) 76)) (fun d _ => s.size - (intOf d).toNat)
  case atStart => exact ⟨1, 0, rfl, unhide HS1, fun i h1 h2 => by omega, rfl, rfl⟩
  case round =>
    obtain ⟨k, m, hkm, hks, hall, rfl, rfl⟩ := hrel
    have HK := hide hkm
    have HA := hide hall
    clear hkm hall
    by_cases hlt : k < s.size
    · have hlt' : (k : Int) < (s.size : Int) := by omega
      cases hd1 : digB s k n
      · have HBad : Hid (BadAt s k) := Or.inr ⟨n, unhide HO, by have := unhide HK; omega, by omega, unhide HA, hd1, fun e => absurd e (by omega)⟩
        have HB := hide (heap_alloc_last w (.cells (latC 0 0 0 noT) 76))
        go_wp2_with fail
        refine (digitAt_int _ _ _ _ k rfl).mono ?_
        rintro e w' ⟨rfl, rfl⟩
        go_wp2_with fail
        refine (noOrder_any _ _).mono ?_
        rintro e w1 ⟨rfl, hb⟩
        have hg1 := (hb.block w.heap.size (by simp <;> omega)).trans ((heap_alloc_old _ _ (by simp)).trans (unhide HB))
        have hst := store_lat w1 w.heap.size 0 0 0 2 k 0 noT noT hg1
        have HG := hide hg1
        clear hg1
        go_wp2_with fail
        refine bodyPost_ret (v := .agg (latC 2 k 0 noT)) (ret_lat Try.results49 _ _ w.heap.size _ _ _ _ rfl (setRow_heap _ _ _ _ _ _ (unhide HG))) rfl ⟨Or.inl ⟨k, unhide HBad, rfl⟩, ?_⟩
        exact below_setRow ((((Below.refl _ _).alloc (Nat.le_refl _) _).alloc (by simp) _).trans (hb.mono (by simp <;> omega))) (Nat.le_refl _) _
      · cases hd2 : digB s (k + 1) n
        · have HBad : Hid (BadAt s (k + 1)) := Or.inr ⟨n, unhide HO, by omega, by omega, fun i h1 h2 => by
            by_cases e : i = k
            · rw [e]; exact hd1
            · exact unhide HA i h1 (by omega), hd2, fun e => by have := unhide HK; omega⟩
          have HB := hide (heap_alloc_last w (.cells (latC 0 0 0 noT) 76))
          go_wp2_with fail
          refine (digitAt_int _ _ _ _ k rfl).mono ?_
          rintro e w' ⟨rfl, rfl⟩
          go_wp2_with fail
          refine (digitAt_int _ _ _ _ (k + 1) (by omega)).mono ?_
          rintro e w' ⟨rfl, rfl⟩
          go_wp2_with fail
          refine (noOrder_any _ _).mono ?_
          rintro e w1 ⟨rfl, hb⟩
          have hg1 := (hb.block w.heap.size (by simp <;> omega)).trans ((heap_alloc_old _ _ (by simp)).trans (unhide HB))
          have hst := store_lat w1 w.heap.size 0 0 0 2 ((k : Int) + 1) 0 noT noT hg1
          have HG := hide hg1
          clear hg1
          go_wp2_with fail
          refine bodyPost_ret (v := .agg (latC 2 ((k : Int) + 1) 0 noT)) (ret_lat Try.results49 _ _ w.heap.size _ _ _ _ rfl (setRow_heap _ _ _ _ _ _ (unhide HG))) rfl ⟨Or.inl ⟨k + 1, unhide HBad, by rw [show ((k + 1 : Nat) : Int) = (k : Int) + 1 by omega]⟩, ?_⟩
          exact below_setRow ((((Below.refl _ _).alloc (Nat.le_refl _) _).alloc (by simp) _).trans (hb.mono (by simp <;> omega))) (Nat.le_refl _) _
        · obtain ⟨i, hv1, hi, -, -⟩ := digV_bd hd1
          obtain ⟨j, hv2, hj, -, hk1⟩ := digV_bd hd2
          have hi' : (i : Int) < 8 := by omega
          have hj' : (j : Int) < 8 := by omega
          have HP : Hid (latC 0 0 n (updV (pairsTo s n m) i j true) = latC 0 0 n (pairsTo s n (m + 1))) := by
            have e1 : pairsTo s n (m + 1) = updV (pairsTo s n m) i j true := by
              have e2 := unhide HK
              show updV (pairsTo s n m) (digV s (2 * m + 1) n).toNat (digV s (2 * m + 2) n).toNat true = _
              rw [show 2 * m + 1 = k by omega, show 2 * m + 2 = k + 1 by omega, hv1, hv2]
              rfl
            exact hide (by rw [e1])
          have hc := latC_ij 0 0 n (pairsTo s n m) i j (by omega) (by omega)
          have hset := latC_set 0 0 n (pairsTo s n m) i j true (by omega) (by omega)
          have hz1 := latC_size 0 0 n (pairsTo s n m)
          go_wp2_with fail
          refine (digitAt_int _ _ _ _ k rfl).mono ?_
          rintro e w' ⟨rfl, rfl⟩
          go_wp2_with fail
          refine (digitAt_int _ _ _ _ (k + 1) (by omega)).mono ?_
          rintro e w' ⟨rfl, rfl⟩
          go_wp2_with fail
          go_roundw
          case rel => exact ⟨k + 2, m + 1, by have := unhide HK; omega, by omega, fun x h1 h2 => by
            by_cases e : x = k
            · rw [e]; exact hd1
            · by_cases e' : x = k + 1
              · rw [e']; exact hd2
              · exact unhide HA x h1 (by omega), by go_num, by rw [unhide HP]⟩
          case measure => simp [intOf]; omega
    · have hks' : k = s.size := by omega
      have HGood : Hid (GoodOrd s n) := ⟨unhide HO, by have := unhide HK; omega, fun i h1 h2 => unhide HA i h1 (by omega)⟩
      have HM : Hid (m = s.size / 2) := by have := unhide HK; exact hide (by omega)
      have g0 : ((w.alloc (.cells (latC 0 0 0 noT) 76)).alloc (.cells (latC 0 0 n (pairsTo s n m)) 76)).heap[w.heap.size]? = some (.cells (latC 0 0 0 noT) 76) :=
        (heap_alloc_old _ _ (by simp)).trans (heap_alloc_last w _)
      have g1 : ((w.alloc (.cells (latC 0 0 0 noT) 76)).alloc (.cells (latC 0 0 n (pairsTo s n m)) 76)).heap[w.heap.size + 1]? = some (.cells (latC 0 0 n (pairsTo s n m)) 76) := by
        have := heap_alloc_last (w.alloc (.cells (latC 0 0 0 noT) 76)) (.cells (latC 0 0 n (pairsTo s n m)) 76); simpa using this
      clear hks'
      have hst := store_lat _ _ 0 0 0 0 0 n noT (pairsTo s n m) g0
      have HG := hide g0
      have HG1 := hide g1
      clear g0 g1
      go_wp2_with (refine wpList_load_row rfl 76 _ rfl (w.heap.size + 1) rfl 76 _ (0, 0) _ (unhide HG1) Try.underlying76 rfl (by rw [latC_size]; exact size_lat) ?_)
      refine bodyPost_ret (v := .agg (latC 0 0 n (pairsTo s n m))) (ret_lat Try.results49 _ _ w.heap.size _ _ _ _ rfl (setRow_heap _ _ _ _ _ _ (unhide HG))) rfl ⟨Or.inr ⟨unhide HGood, by rw [← unhide HM]⟩, ?_⟩
      exact below_setRow (((Below.refl _ _).alloc (Nat.le_refl _) _).alloc (by simp) _) (Nat.le_refl _) _

end Go.Proofs.Ytfcflnnleadpkaa
