import Derived.Test.YtfcflnnleadpkaaGreatXpJ
import Derived.Test.YtfcflnnleadpkaaGreatMaJ
import Derived.Laws.CopyOwn
import Derived.RegionTactic
import Derived.ChangeAlike
import Derived.BigRegion
import Derived.BigQuiet
import Derived.Deep.QuietTactic
import Derived.Test.YtfcflnnleadpkaaGreatTjJ
namespace Go.Proofs.YtfcflnnleadpkaaGreat
open Go.RowKit

set_option maxHeartbeats 1000000 in
set_option maxRecDepth 100000 in
theorem readPairs_bad0 (w : World) (s : ByteArray) (h : ∀ n, ¬ FirstOk s n) :
    Calls Tryz.prog 40 #[.string s] w fun e w' => e = .returned (.agg (latC 2 0 0 noT)) ∧ Below w.heap.size w w' := by
  have hz := zero_lat
  have HB := hide (heap_alloc_last w (.cells (latC 0 0 0 noT) 46))
  cases hd : digB s 0 9
  · go_enter Tryz.func40, Tryz.ntmps40
    go_wp2_with fail
    refine (digitAt_int _ _ _ _ 0 rfl).mono ?_
    rintro e w' ⟨rfl, rfl⟩
    go_wp2_with fail
    refine (noOrder_any _ _).mono ?_
    rintro e w1 ⟨rfl, hb⟩
    have hg1 := (hb.block w.heap.size (by simp)).trans (unhide HB)
    have hst := store_lat w1 w.heap.size 0 0 0 2 0 0 noT noT hg1
    have HG := hide hg1
    clear hg1
    go_wp2_with fail
    refine bodyPost_ret (v := .agg (latC 2 0 0 noT)) (ret_lat Tryz.results40 _ _ w.heap.size _ _ _ _ rfl (setRow_heap _ _ _ _ _ _ (unhide HG))) rfl ⟨rfl, ?_⟩
    exact below_setRow (((Below.refl _ _).alloc (Nat.le_refl _) _).trans (hb.mono (by simp))) (Nat.le_refl _) _
  · have HD := hide hd
    have hd0 : digV s 0 9 = 0 := by
      have h1 := digV_bd (n := 9) hd
      obtain ⟨i, h1, h2, h3, h4⟩ := h1
      rcases Nat.eq_zero_or_pos i with e | e
      · have : digV s 0 ((9 : Nat) : Int) = digV s 0 9 := rfl
        rw [← this, h1, e]; rfl
      · exact absurd ⟨hd, h1, e, by omega⟩ (h i)
    have he : (digV s 0 9 == 0) = true := by rw [hd0]; rfl
    clear hd0
    go_enter Tryz.func40, Tryz.ntmps40
    go_wp2_with fail
    refine (digitAt_int _ _ _ _ 0 rfl).mono ?_
    rintro e w' ⟨rfl, rfl⟩
    go_wp2_with fail
    refine (noOrder_any _ _).mono ?_
    rintro e w1 ⟨rfl, hb⟩
    have hg1 := (hb.block w.heap.size (by simp)).trans (unhide HB)
    have hst := store_lat w1 w.heap.size 0 0 0 2 0 0 noT noT hg1
    have HG := hide hg1
    clear hg1
    go_wp2_with fail
    refine bodyPost_ret (v := .agg (latC 2 0 0 noT)) (ret_lat Tryz.results40 _ _ w.heap.size _ _ _ _ rfl (setRow_heap _ _ _ _ _ _ (unhide HG))) rfl ⟨rfl, ?_⟩
    exact below_setRow (((Below.refl _ _).alloc (Nat.le_refl _) _).trans (hb.mono (by simp))) (Nat.le_refl _) _

/-- What reading the pairs comes to. -/
def PairsPost (s : ByteArray) (n : Nat) (e : Ending) : Prop :=
  (∃ k : Nat, BadAt s k ∧ e = .returned (.agg (latC 2 k 0 noT))) ∨ (GoodOrd s n ∧ e = .returned (.agg (latC 0 0 n (pairsTo s n (s.size / 2)))))

set_option maxHeartbeats 2000000 in
set_option maxRecDepth 100000 in
theorem readPairs_ok (w : World) (s : ByteArray) (n : Nat) (h : FirstOk s n) (hsz : s.size ≤ 65) :
    Calls Tryz.prog 40 #[.string s] w fun e w' => PairsPost s n e ∧ Below w.heap.size w w' := by
  have hz := zero_lat
  have HO := hide h
  obtain ⟨hd, hv, h1, h8⟩ := h
  have hv9 : digV s 0 9 = (n : Int) := hv
  have hn0 : (((n : Int)) == 0) = false := by simp; omega
  have z0 := latC_size 0 0 0 noT
  have z1 := latC_size 0 0 n noT
  have s0 := latC_set2 0 0 0 n noT
  have hst := store_lat ((w.alloc (.cells (latC 0 0 0 noT) 46)).alloc (.cells (latC 0 0 0 noT) 46)) (w.heap.size + 1) 0 0 0 0 0 n noT noT (by have := heap_alloc_last (w.alloc (.cells (latC 0 0 0 noT) 46)) (.cells (latC 0 0 0 noT) 46); simpa using this)
  rw [show w.heap.size + 1 = (w.alloc (.cells (latC 0 0 0 noT) 46)).heap.size by simp, World.setRow_alloc_new] at hst
  rw [show (w.alloc (.cells (latC 0 0 0 noT) 46)).heap.size = w.heap.size + 1 by simp] at hst
  have HS1 : Hid (1 ≤ s.size) := by
    obtain ⟨i, g1, g2, g3, g4⟩ := digV_bd (n := 9) hd
    exact hide g4
  go_enter Tryz.func40, Tryz.ntmps40
  go_wp2_with fail
  refine (digitAt_int _ _ _ _ 0 rfl).mono ?_
  rintro e w' ⟨rfl, rfl⟩
  go_wp2_with fail
  clear hst s0 z1 hv9 hv hd hn0
  go_loopw [6] (fun d wr => ∃ k m : Nat, k = 2 * m + 1 ∧ k ≤ s.size ∧ (∀ i, 1 ≤ i → i < k → digB s i n = true) ∧ d = .int .i64 (k : Int) ∧ wr = (w.alloc (.cells (latC 0 0 0 noT) 46)).alloc (.cells (latC 0 0 n (pairsTo s n m)) 46)) (fun d _ => s.size - (intOf d).toNat)
  case atStart => exact ⟨1, 0, rfl, unhide HS1, fun i h1 h2 => by omega, rfl, rfl⟩
  case round =>
    obtain ⟨k, m, hkm, hks, hall, rfl, rfl⟩ := hrel
    have HK := hide hkm
    have HA := hide hall
    clear hkm hall
    by_cases hlt : k < s.size
    · have hlt' : (k : Int) < (s.size : Int) := by omega
      cases hd1 : digB s k n
      · have HBad : Hid (BadAt s k) := Or.inr ⟨n, unhide HO, by have := unhide HK; omega, by omega, unhide HA, hd1, fun e => absurd e (by omega)⟩
        have HB := hide (heap_alloc_last w (.cells (latC 0 0 0 noT) 46))
        go_wp2_with fail
        refine (digitAt_int _ _ _ _ k rfl).mono ?_
        rintro e w' ⟨rfl, rfl⟩
        go_wp2_with fail
        refine (noOrder_any _ _).mono ?_
        rintro e w1 ⟨rfl, hb⟩
        have hg1 := (hb.block w.heap.size (by simp <;> omega)).trans ((heap_alloc_old _ _ (by simp)).trans (unhide HB))
        have hst := store_lat w1 w.heap.size 0 0 0 2 k 0 noT noT hg1
        have HG := hide hg1
        clear hg1
        go_wp2_with fail
        refine bodyPost_ret (v := .agg (latC 2 k 0 noT)) (ret_lat Tryz.results40 _ _ w.heap.size _ _ _ _ rfl (setRow_heap _ _ _ _ _ _ (unhide HG))) rfl ⟨Or.inl ⟨k, unhide HBad, rfl⟩, ?_⟩
        exact below_setRow ((((Below.refl _ _).alloc (Nat.le_refl _) _).alloc (by simp) _).trans (hb.mono (by simp <;> omega))) (Nat.le_refl _) _
      · cases hd2 : digB s (k + 1) n
        · have HBad : Hid (BadAt s (k + 1)) := Or.inr ⟨n, unhide HO, by omega, by omega, fun i h1 h2 => by
            by_cases e : i = k
            · rw [e]; exact hd1
            · exact unhide HA i h1 (by omega), hd2, fun e => by have := unhide HK; omega⟩
          have HB := hide (heap_alloc_last w (.cells (latC 0 0 0 noT) 46))
          go_wp2_with fail
          refine (digitAt_int _ _ _ _ k rfl).mono ?_
          rintro e w' ⟨rfl, rfl⟩
          go_wp2_with fail
          refine (digitAt_int _ _ _ _ (k + 1) (by omega)).mono ?_
          rintro e w' ⟨rfl, rfl⟩
          go_wp2_with fail
          refine (noOrder_any _ _).mono ?_
          rintro e w1 ⟨rfl, hb⟩
          have hg1 := (hb.block w.heap.size (by simp <;> omega)).trans ((heap_alloc_old _ _ (by simp)).trans (unhide HB))
          have hst := store_lat w1 w.heap.size 0 0 0 2 ((k : Int) + 1) 0 noT noT hg1
          have HG := hide hg1
          clear hg1
          go_wp2_with fail
          refine bodyPost_ret (v := .agg (latC 2 ((k : Int) + 1) 0 noT)) (ret_lat Tryz.results40 _ _ w.heap.size _ _ _ _ rfl (setRow_heap _ _ _ _ _ _ (unhide HG))) rfl ⟨Or.inl ⟨k + 1, unhide HBad, by rw [show ((k + 1 : Nat) : Int) = (k : Int) + 1 by omega]⟩, ?_⟩
          exact below_setRow ((((Below.refl _ _).alloc (Nat.le_refl _) _).alloc (by simp) _).trans (hb.mono (by simp <;> omega))) (Nat.le_refl _) _
        · obtain ⟨i, hv1, hi, -, -⟩ := digV_bd hd1
          obtain ⟨j, hv2, hj, -, hk1⟩ := digV_bd hd2
          have hi' : (i : Int) < 8 := by omega
          have hj' : (j : Int) < 8 := by omega
          have HP : Hid (latC 0 0 n (updV (pairsTo s n m) i j true) = latC 0 0 n (pairsTo s n (m + 1))) := by
            have e1 : pairsTo s n (m + 1) = updV (pairsTo s n m) i j true := by
              have e2 := unhide HK
              show updV (pairsTo s n m) (digV s (2 * m + 1) n).toNat (digV s (2 * m + 2) n).toNat true = _
              rw [show 2 * m + 1 = k by omega, show 2 * m + 2 = k + 1 by omega, hv1, hv2]
              rfl
            exact hide (by rw [e1])
          have hc := latC_ij 0 0 n (pairsTo s n m) i j (by omega) (by omega)
          have hset := latC_set 0 0 n (pairsTo s n m) i j true (by omega) (by omega)
          have hz1 := latC_size 0 0 n (pairsTo s n m)
          go_wp2_with fail
          refine (digitAt_int _ _ _ _ k rfl).mono ?_
          rintro e w' ⟨rfl, rfl⟩
          go_wp2_with fail
          refine (digitAt_int _ _ _ _ (k + 1) (by omega)).mono ?_
          rintro e w' ⟨rfl, rfl⟩
          go_wp2_with fail
          go_roundw
          case rel => exact ⟨k + 2, m + 1, by have := unhide HK; omega, by omega, fun x h1 h2 => by
            by_cases e : x = k
            · rw [e]; exact hd1
            · by_cases e' : x = k + 1
              · rw [e']; exact hd2
              · exact unhide HA x h1 (by omega), by go_num, by rw [unhide HP]⟩
          case measure => simp [intOf]; omega
    · have hks' : k = s.size := by omega
      have HGood : Hid (GoodOrd s n) := ⟨unhide HO, by have := unhide HK; omega, fun i h1 h2 => unhide HA i h1 (by omega)⟩
      have HM : Hid (m = s.size / 2) := by have := unhide HK; exact hide (by omega)
      have g0 : ((w.alloc (.cells (latC 0 0 0 noT) 46)).alloc (.cells (latC 0 0 n (pairsTo s n m)) 46)).heap[w.heap.size]? = some (.cells (latC 0 0 0 noT) 46) :=
        (heap_alloc_old _ _ (by simp)).trans (heap_alloc_last w _)
      have g1 : ((w.alloc (.cells (latC 0 0 0 noT) 46)).alloc (.cells (latC 0 0 n (pairsTo s n m)) 46)).heap[w.heap.size + 1]? = some (.cells (latC 0 0 n (pairsTo s n m)) 46) := by
        have := heap_alloc_last (w.alloc (.cells (latC 0 0 0 noT) 46)) (.cells (latC 0 0 n (pairsTo s n m)) 46); simpa using this
      clear hks'
      have hst := store_lat _ _ 0 0 0 0 0 n noT (pairsTo s n m) g0
      have HG := hide g0
      have HG1 := hide g1
      clear g0 g1
      go_wp2_with (refine wpList_load_row rfl 46 _ rfl (w.heap.size + 1) rfl 46 _ (0, 0) _ (unhide HG1) Tryz.underlying46 rfl (by rw [latC_size]; exact size_lat) ?_)
      refine bodyPost_ret (v := .agg (latC 0 0 n (pairsTo s n m))) (ret_lat Tryz.results40 _ _ w.heap.size _ _ _ _ rfl (setRow_heap _ _ _ _ _ _ (unhide HG))) rfl ⟨Or.inr ⟨unhide HGood, by rw [← unhide HM]⟩, ?_⟩
      exact below_setRow (((Below.refl _ _).alloc (Nat.le_refl _) _).alloc (by simp) _) (Nat.le_refl _) _

end Go.Proofs.YtfcflnnleadpkaaGreat

namespace Go.Proofs.YtfcflnnleadpkaaGreat
open Go.RowKit

/-- What 'turned' has behind a rounds, and b of the next. -/
def trn (n : Nat) (R : Nat → Nat → Bool) (a b : Nat) : Nat → Nat → Bool := fun i j => if j < a ∨ (j = a ∧ i < b) then (if i < n then R j i else false) else false

theorem trn_zero (n : Nat) (R : Nat → Nat → Bool) : trn n R 0 0 = noT := by
  funext i j; unfold trn noT; rw [if_neg (by omega)]
theorem trn_step (n : Nat) (R : Nat → Nat → Bool) (a b : Nat) (hb : b < n) (x y : Nat) : updV (trn n R a b) b a (R a b) x y = trn n R a (b + 1) x y := by
  unfold updV trn
  by_cases e1 : x = b
  · by_cases e2 : y = a
    · subst e1; subst e2
      rw [if_pos (by simp), if_pos (by omega), if_pos hb]
    · have h : (x == b && y == a) = false := by simp [e2]
      rw [h]
      by_cases c : y < a ∨ (y = a ∧ x < b)
      · rw [if_pos c, if_pos (show y < a ∨ (y = a ∧ x < b + 1) by omega)]; rfl
      · rw [if_neg c, if_neg (show ¬ (y < a ∨ (y = a ∧ x < b + 1)) by omega)]; rfl
  · have h : (x == b && y == a) = false := by simp [e1]
    rw [h]
    by_cases c : y < a ∨ (y = a ∧ x < b)
    · rw [if_pos c, if_pos (show y < a ∨ (y = a ∧ x < b + 1) by omega)]; rfl
    · rw [if_neg c, if_neg (show ¬ (y < a ∨ (y = a ∧ x < b + 1)) by omega)]; rfl
theorem trn_next (n : Nat) (R : Nat → Nat → Bool) (a b : Nat) (hb : n ≤ b) : trn n R (a + 1) 0 = trn n R a b := by
  funext x y
  unfold trn
  by_cases hx : x < n
  · by_cases c : y < a ∨ (y = a ∧ x < b)
    · rw [if_pos c, if_pos (show y < a + 1 ∨ (y = a + 1 ∧ x < 0) by omega)]
    · rw [if_neg c, if_neg (show ¬ (y < a + 1 ∨ (y = a + 1 ∧ x < 0)) by omega)]
  · rw [if_neg hx]; split <;> split <;> rfl

theorem below_drewN' {B : Nat} {a w : World} (h : Below B a w) (q : Nat) : Below B a (w.drewN q) := ⟨h.os, h.tape, h.output, h.size, h.block⟩
theorem set_top {w : World} {A : Obj} {C C' : Array Value} {T : TypeId} {q off : Nat} {v : Value} (hC : C.setIfInBounds off v = C') :
    (((w.alloc A).alloc (.cells C T)).drewN q).setCell ⟨w.heap.size + 1, off, none⟩ v = ((w.alloc A).alloc (.cells C' T)).drewN q := by
  have h1 : ((w.alloc A).alloc (.cells C T)).heap[w.heap.size + 1]? = some (.cells C T (0, 0)) := by
    have := heap_alloc_last (w.alloc A) (.cells C T); simpa using this
  have h2 : (((w.alloc A).alloc (.cells C T)).drewN q).setCell ⟨w.heap.size + 1, off, none⟩ v = (((w.alloc A).alloc (.cells C T)).setCell ⟨w.heap.size + 1, off, none⟩ v).drewN q := rfl
  rw [h2, setCell_eq_setRow _ _ _ _ _ _ _ h1, hC]
  have h3 : w.heap.size + 1 = (w.alloc A).heap.size := by simp
  rw [h3, World.setRow_alloc_new]

set_option maxHeartbeats 2000000 in
set_option maxRecDepth 100000 in
theorem turned_any (w : World) (b n : Nat) (R : Nat → Nat → Bool) (hn : n ≤ 8) (hl : LatM w b 0 n R) :
    Calls Tryz.prog 75 #[.pointer (some ⟨b, 0, none⟩)] w fun e w' => e = .returned (.agg (latC 0 0 n (trn n R n 0))) ∧ Below w.heap.size w w' := by
  have hz := zero_lat
  have hc := hl.c0
  have hbz : b < w.heap.size := by
    have := block_lt_of_cell hc
    exact this
  have z0 := latC_size 0 0 0 noT
  have z1 := latC_size 0 0 n noT
  have s0 := latC_set2 0 0 0 n noT
  have hst := store_lat ((w.alloc (.cells (latC 0 0 0 noT) 46)).alloc (.cells (latC 0 0 0 noT) 46)) (w.heap.size + 1) 0 0 0 0 0 n noT noT (by have := heap_alloc_last (w.alloc (.cells (latC 0 0 0 noT) 46)) (.cells (latC 0 0 0 noT) 46); simpa using this)
  rw [show w.heap.size + 1 = (w.alloc (.cells (latC 0 0 0 noT) 46)).heap.size by simp, World.setRow_alloc_new] at hst
  rw [show (w.alloc (.cells (latC 0 0 0 noT) 46)).heap.size = w.heap.size + 1 by simp] at hst
  go_enter Tryz.func75, Tryz.ntmps75
  go_wp2_with fail
  clear hst s0 z1 hc
  have HL := hide hl
  clear hl
  have HS0 := hide (show (w.alloc (.cells (latC 0 0 0 noT) 46)).alloc (.cells (latC 0 0 n noT) 46) = ((w.alloc (.cells (latC 0 0 0 noT) 46)).alloc (.cells (latC 0 0 n (trn n R 0 0)) 46)).drewN 0 by rw [trn_zero]; rfl)
  go_loopw [4] (fun d wr => ∃ a q : Nat, a ≤ n ∧ d = .int .i64 (a : Int) ∧ wr = ((w.alloc (.cells (latC 0 0 0 noT) 46)).alloc (.cells (latC 0 0 n (trn n R a 0)) 46)).drewN q) (fun d _ => n - (intOf d).toNat)
  case atStart => exact ⟨0, 0, Nat.zero_le _, rfl, unhide HS0⟩
  case round =>
    obtain ⟨a, q, ha, rfl, rfl⟩ := hrel
    have hc := (unhide HL).c0
    by_cases hlt : a < n
    · have ha' : (a : Int) < 8 := by omega
      go_wp2_with fail
      go_loopw [5] (fun d wr => ∃ m q : Nat, m ≤ n ∧ d = .int .i64 (m : Int) ∧ wr = ((w.alloc (.cells (latC 0 0 0 noT) 46)).alloc (.cells (latC 0 0 n (trn n R a m)) 46)).drewN q) (fun d _ => n - (intOf d).toNat)
      case atStart => exact ⟨0, q, Nat.zero_le _, rfl, rfl⟩
      case round =>
        obtain ⟨m, q, hm, rfl, rfl⟩ := hrel
        by_cases hlm : m < n
        · have hm' : (m : Int) < 8 := by omega
          have hb1 := (unhide HL).b0 a m (by omega) (by omega)
          have hcc := latC_ij 0 0 n (trn n R a m) m a (by omega) (by omega)
          have hset := latC_set 0 0 n (trn n R a m) m a (R a m) (by omega) (by omega)
          have hz1 := latC_size 0 0 n (trn n R a m)
          go_wp2_with fail
          go_region
          go_wp2_with fail
          go_roundw
          case rel => exact ⟨m + 1, q + 1, by omega, by go_num, by rw [set_top (hC := hset), latC_congr 0 0 n _ _ (fun x y _ _ => trn_step n R a m hlm x y)]⟩
          case measure => simp [intOf]; omega
        · go_wp2_with fail
          go_roundw
          case rel => exact ⟨a + 1, q, by omega, by go_num, by rw [trn_next n R a m (by omega)]⟩
          case measure => simp [intOf]; omega
    · have ea : a = n := by omega
      subst ea
      have g0 : (((w.alloc (.cells (latC 0 0 0 noT) 46)).alloc (.cells (latC 0 0 a (trn a R a 0)) 46)).drewN q).heap[w.heap.size]? = some (.cells (latC 0 0 0 noT) 46) :=
        (heap_alloc_old _ _ (by simp)).trans (heap_alloc_last w _)
      have g1 : (((w.alloc (.cells (latC 0 0 0 noT) 46)).alloc (.cells (latC 0 0 a (trn a R a 0)) 46)).drewN q).heap[w.heap.size + 1]? = some (.cells (latC 0 0 a (trn a R a 0)) 46) := by
        have := heap_alloc_last (w.alloc (.cells (latC 0 0 0 noT) 46)) (.cells (latC 0 0 a (trn a R a 0)) 46); simpa using this
      have hst := store_lat _ _ 0 0 0 0 0 a noT (trn a R a 0) g0
      have HG := hide g0
      have HG1 := hide g1
      clear g0 g1
      go_wp2_with (refine wpList_load_row rfl 46 _ rfl (w.heap.size + 1) rfl 46 _ (0, 0) _ (unhide HG1) Tryz.underlying46 rfl (by rw [latC_size]; exact size_lat) ?_)
      refine bodyPost_ret (v := .agg (latC 0 0 a (trn a R a 0))) (ret_lat Tryz.results75 _ _ w.heap.size _ _ _ _ rfl (setRow_heap _ _ _ _ _ _ (unhide HG))) rfl ⟨rfl, ?_⟩
      exact below_setRow (below_drewN' (((Below.refl _ _).alloc (Nat.le_refl _) _).alloc (by simp) _) _) (Nat.le_refl _) _

end Go.Proofs.YtfcflnnleadpkaaGreat

namespace Go.Proofs.YtfcflnnleadpkaaGreat
open Go.RowKit

theorem hasJ_congr {n : Nat} {R S : Nat → Nat → Bool} (h : Hm.Same n R S) : Hm.hasJ R n = Hm.hasJ S n := by
  rw [Bool.eq_iff_iff, Hm.hasJ_iff, Hm.hasJ_iff]
  constructor
  · intro k a b ha hb
    obtain ⟨c, h1, h2⟩ := k a b ha hb
    exact ⟨c, h1, by rw [← Hm.lub_congr h ha (by omega) h1]; exact h2⟩
  · intro k a b ha hb
    obtain ⟨c, h1, h2⟩ := k a b ha hb
    exact ⟨c, h1, by rw [Hm.lub_congr h ha (by omega) h1]; exact h2⟩
theorem trn_flip (n : Nat) (R : Nat → Nat → Bool) : Hm.Same n (trn n R n 0) (Hm.flip R) := by
  intro i j hi hj
  unfold trn Hm.flip
  rw [if_pos (Or.inl hj), if_pos hi]
set_option maxHeartbeats 1000000 in
set_option maxRecDepth 100000 in
theorem wellOrdered_any (w : World) (b n : Nat) (R : Nat → Nat → Bool) (hn : n ≤ 8) (hl : LatM w b 0 n R) :
    Calls Tryz.prog 42 #[.pointer (some ⟨b, 0, none⟩)] w fun e w' => e = .returned (.bool (Hm.wellC R n)) ∧ Below w.heap.size w w' := by
  have hz := zero_lat
  cases h1 : Hm.circ R n
  · cases h2 : Hm.hasJ R n
    · have HF := hide (show Hm.wellC R n = false by unfold Hm.wellC; rw [h1, h2]; rfl)
      go_enter Tryz.func42, Tryz.ntmps42
      go_wp2_with fail
      refine (hasCircle_any _ _ _ _ _ hn hl).mono ?_
      rintro e w' ⟨rfl, rfl⟩
      go_wp2_with fail
      refine (hasJoins_any _ _ _ _ _ hn hl).mono ?_
      rintro e w' ⟨rfl, rfl⟩
      go_wp2_with fail
      go_ret
      exact ⟨by rw [unhide HF]; rfl, Below.refl _ _⟩
    · have HF := hide (show Hm.wellC R n = Hm.hasJ (trn n R n 0) n by unfold Hm.wellC; rw [h1, h2, hasJ_congr (trn_flip n R)]; rfl)
      go_enter Tryz.func42, Tryz.ntmps42
      go_wp2_with fail
      refine (hasCircle_any _ _ _ _ _ hn hl).mono ?_
      rintro e w' ⟨rfl, rfl⟩
      go_wp2_with fail
      refine (hasJoins_any _ _ _ _ _ hn hl).mono ?_
      rintro e w' ⟨rfl, rfl⟩
      go_wp2_with fail
      refine (turned_any _ _ _ _ hn hl).mono ?_
      rintro e w1 ⟨rfl, hb⟩
      have hst := store_lat (w1.alloc (.cells (latC 0 0 0 noT) 46)) w1.heap.size 0 0 0 0 0 n noT (trn n R n 0) (heap_alloc_last w1 _)
      rw [World.setRow_alloc_new] at hst
      have z1 := latC_size 0 0 n (trn n R n 0)
      have z0 := latC_size 0 0 0 noT
      go_wp2_with fail
      refine (hasJoins_any _ _ _ _ _ hn (latC_lat (heap_alloc_last w1 _))).mono ?_
      rintro e w2 ⟨rfl, rfl⟩
      go_wp2_with fail
      go_ret
      exact ⟨by rw [unhide HF]; rfl, hb.trans ((Below.refl _ _).alloc hb.size _)⟩
  · have HF := hide (show Hm.wellC R n = false by unfold Hm.wellC; rw [h1]; rfl)
    go_enter Tryz.func42, Tryz.ntmps42
    go_wp2_with fail
    refine (hasCircle_any _ _ _ _ _ hn hl).mono ?_
    rintro e w' ⟨rfl, rfl⟩
    go_wp2_with fail
    go_ret
    exact ⟨by rw [unhide HF]; rfl, Below.refl _ _⟩


end Go.Proofs.YtfcflnnleadpkaaGreat

namespace Go.Proofs.YtfcflnnleadpkaaGreat
open Go.RowKit

/-- The joins that are kept behind a rows, and b of the next. -/
def jTo (n : Nat) (R : Nat → Nat → Bool) (a b : Nat) : Nat → Nat → Int := fun i j => if i < n ∧ j < n ∧ (i < a ∨ (i = a ∧ j < b)) then Hm.joinI R n i j else 0
theorem jTo_zero (n : Nat) (R : Nat → Nat → Bool) : jTo n R 0 0 = noJ := by
  funext i j; unfold jTo noJ; rw [if_neg (by omega)]
theorem jTo_step (n : Nat) (R : Nat → Nat → Bool) (a b : Nat) (ha : a < n) (hb : b < n) (x y : Nat) : updJ (jTo n R a b) a b (Hm.joinI R n a b) x y = jTo n R a (b + 1) x y := by
  unfold updJ jTo
  by_cases e : x = a ∧ y = b
  · obtain ⟨rfl, rfl⟩ := e
    rw [if_pos (by simp), if_pos ⟨ha, hb, by omega⟩]
  · have h : (x == a && y == b) = false := by
      cases h : (x == a && y == b) with
      | false => rfl
      | true => simp at h; exact absurd h e
    simp only [h, Bool.false_eq_true, if_false]
    by_cases c : x < n ∧ y < n ∧ (x < a ∨ (x = a ∧ y < b))
    · rw [if_pos c, if_pos (by omega)]
    · rw [if_neg c, if_neg (by omega)]
theorem jTo_next (n : Nat) (R : Nat → Nat → Bool) (a b : Nat) (hb : n ≤ b) : jTo n R (a + 1) 0 = jTo n R a b := by
  funext x y
  unfold jTo
  by_cases c : x < n ∧ y < n ∧ (x < a ∨ (x = a ∧ y < b))
  · rw [if_pos c, if_pos (by omega)]
  · rw [if_neg c, if_neg (by omega)]
theorem jTo_all (n : Nat) (R : Nat → Nat → Bool) (i j : Nat) (hi : i < n) (hj : j < n) : jTo n R n 0 i j = Hm.joinI R n i j := by
  unfold jTo; rw [if_pos ⟨hi, hj, by omega⟩]
theorem lat_setJ {w : World} {b : Nat} {n e p z : Int} {R : Nat → Nat → Bool} {J K : Nat → Nat → Int} {t : TypeId} {fr : Nat × Nat} (h : w.heap[b]? = some (.cells (latJ e p n R J z) t fr)) {i j : Nat} {v : Int} (hi : i < 8) (hj : j < 8)
    (hS : ∀ x y, updJ J i j v x y = K x y) : w.setCell ⟨b, 67 + i * 8 + j, none⟩ (.int .i64 v) = w.setRow b (latJ e p n R K z) := by
  rw [setCell_eq_setRow w b _ _ t fr _ h, latJ_set _ _ _ _ _ _ _ _ _ hi hj, latJ_congr _ _ _ R R _ K _ (fun _ _ _ _ => rfl) (fun x y _ _ => hS x y)]

theorem LatM.drewN {w : World} {b o n : Nat} {R : Nat → Nat → Bool} (h : LatM w b o n R) (q : Nat) : LatM (w.drewN q) b o n R := ⟨h.cnt, h.bel⟩
theorem LatM.drew {w : World} {b o n : Nat} {R : Nat → Nat → Bool} (h : LatM w b o n R) : LatM w.drew b o n R := ⟨h.cnt, h.bel⟩

set_option maxHeartbeats 1000000 in
set_option maxRecDepth 100000 in
theorem keepJoins_any (w : World) (b n : Nat) (R : Nat → Nat → Bool) (t : TypeId) (hn : n ≤ 8) (hg : w.heap[b]? = some (.cells (latC 0 0 n R) t (0, 0))) :
    Calls Tryz.prog 43 #[.pointer (some ⟨b, 0, none⟩)] w fun e w' => e = .returned (.tuple #[]) ∧ ∃ q : Nat, w' = (w.setRow b (latJ 0 0 n R (jTo n R n 0) 0)).drewN q := by
  have HG := hide (fun S : Nat → Nat → Int => setRow_heap w b _ (latJ 0 0 n R S 0) t (0, 0) hg)
  have HC := hide (fun S : Nat → Nat → Int => latJ_lat (setRow_heap w b _ (latJ 0 0 n R S 0) t (0, 0) hg))
  have HZ := hide (fun (S : Nat → Nat → Int) j => frozen_of_row (w.setRow b (latJ 0 0 n R S 0)) b j _ t (setRow_heap w b _ _ t (0, 0) hg))
  have HK := hide (fun (S : Nat → Nat → Int) (i j : Nat) (hi : i < 8) (hj : j < 8) => (rowF_cell (setRow_heap w b _ (latJ 0 0 n R S 0) t (0, 0) hg) (show 67 + i * 8 + j < 132 by omega)).trans (congrArg some (latF_jj 0 0 n R S 0 i j hi hj)))
  have HS := hide (show w = (w.setRow b (latJ 0 0 n R (jTo n R 0 0) 0)).drewN 0 by
    rw [jTo_zero, ← latC_J, setRow_self w b _ t (0, 0) hg]; rfl)
  clear hg
  go_enter Tryz.func43, Tryz.ntmps43
  go_wp2_with fail
  go_loopw [2] (fun d wr => ∃ a q : Nat, a ≤ n ∧ d = .int .i64 (a : Int) ∧ wr = (w.setRow b (latJ 0 0 n R (jTo n R a 0) 0)).drewN q) (fun d _ => n - (intOf d).toNat)
  case atStart => exact ⟨0, 0, Nat.zero_le _, rfl, unhide HS⟩
  case round =>
    obtain ⟨a, q, ha, rfl, rfl⟩ := hrel
    have hc := (unhide HC (jTo n R a 0)).c0
    by_cases hlt : a < n
    · have ha' : (a : Int) < 8 := by omega
      go_wp2_with fail
      clear hc
      go_loopw [3] (fun d wr => ∃ m q : Nat, m ≤ n ∧ d = .int .i64 (m : Int) ∧ wr = (w.setRow b (latJ 0 0 n R (jTo n R a m) 0)).drewN q) (fun d _ => n - (intOf d).toNat)
      case atStart => exact ⟨0, q, Nat.zero_le _, rfl, rfl⟩
      case round =>
        obtain ⟨m, q, hm, rfl, rfl⟩ := hrel
        have hc := (unhide HC (jTo n R a m)).c0
        by_cases hlm : m < n
        · have hm' : (m : Int) < 8 := by omega
          have hb := unhide HK (jTo n R a m) a m (by omega) (by omega)
          have hz := unhide HZ (jTo n R a m) (67 + a * 8 + m)
          go_wp2_with fail
          go_region_with (go_at_call 76; refine (findJoin_any _ _ 0 _ _ _ _ hn (((unhide HC (jTo n R a m)).drewN q).drew) hlt hlm).mono ?_; rintro e w' ⟨rfl, rfl⟩)
          all_goals
            go_wp2_with fail
            go_roundw
            case rel => exact ⟨m + 1, q + 1, by omega, by go_num, by
              rw [show ((w.setRow b (latJ 0 0 n R (jTo n R a m) 0)).drewN (q + 1)).setCell ⟨b, 67 + a * 8 + m, none⟩ (.int .i64 (Hm.joinI R n a m)) = ((w.setRow b (latJ 0 0 n R (jTo n R a m) 0)).setCell ⟨b, 67 + a * 8 + m, none⟩ (.int .i64 (Hm.joinI R n a m))).drewN (q + 1) from rfl,
                lat_setJ (unhide HG (jTo n R a m)) (by omega) (by omega) (fun x y => jTo_step n R a m hlt hlm x y), setRow_setRow]⟩
            case measure => simp [intOf]; omega
        · go_wp2_with fail
          go_roundw
          case rel => exact ⟨a + 1, q, by omega, by go_num, by rw [jTo_next n R a m (by omega)]⟩
          case measure => simp [intOf]; omega
    · have ea : a = n := by omega
      subst ea
      go_wp2_with fail
      go_end0
      exact ⟨rfl, q, rfl⟩

/-- The bottom that is found among the levels up to k. -/
def fbK (R : Nat → Nat → Bool) : Nat → Nat
  | 0 => 0
  | k + 1 => if R (k + 1) (fbK R k) = true then k + 1 else fbK R k
theorem fbK_le (R : Nat → Nat → Bool) : ∀ k, fbK R k ≤ k := by
  intro k
  induction k with
  | zero => exact Nat.le_refl _
  | succ k ih => simp only [fbK]; split <;> omega

set_option maxHeartbeats 1000000 in
set_option maxRecDepth 100000 in
theorem findBottom_any (w : World) (b n : Nat) (R : Nat → Nat → Bool) (h1 : 1 ≤ n) (hn : n ≤ 8) (hl : LatM w b 0 n R) :
    Calls Tryz.prog 44 #[.pointer (some ⟨b, 0, none⟩)] w fun e w' => e = .returned (.int .i64 (fbK R (n - 1) : Nat)) ∧ w' = w := by
  have hc := hl.c0
  go_enter Tryz.func44, Tryz.ntmps44
  go_wp2_with fail
  go_loop [3, 4] (fun d e => ∃ m : Nat, m + 1 ≤ n ∧ e = .int .i64 ((m : Int) + 1) ∧ d = .int .i64 (fbK R m : Nat)) (fun _ e => n - (intOf e).toNat)
  case atStart => exact ⟨0, h1, rfl, rfl⟩
  case round =>
    obtain ⟨m, hm, rfl, rfl⟩ := hrel
    have HL := hide (fbK_le R m)
    have HY := hide (fun h : R (m + 1) (fbK R m) = true => show fbK R (m + 1) = m + 1 by simp only [fbK]; rw [if_pos h])
    have HN := hide (fun h : R (m + 1) (fbK R m) = false => show fbK R (m + 1) = fbK R m by simp only [fbK]; rw [if_neg (by simp [h])])
    generalize hq0 : fbK R m = q at *
    have HQ := hide hq0.symm
    clear hq0
    by_cases hlt : m + 1 < n
    · have hq : q < n := by have := unhide HL; omega
      cases hr : R (m + 1) q
      · go_wp2_with fail
        refine (isBelow_any _ _ _ _ (m + 1) _ _ hn hl hlt hq).mono ?_
        rintro e w' ⟨rfl, rfl⟩
        rw [hr]
        go_wp2_with fail
        go_round
        case rel => exact ⟨m + 1, by omega, by go_num, by rw [unhide HN hr]⟩
        case measure => simp [intOf]; omega
      · go_wp2_with fail
        refine (isBelow_any _ _ _ _ (m + 1) _ _ hn hl hlt hq).mono ?_
        rintro e w' ⟨rfl, rfl⟩
        rw [hr]
        go_wp2_with fail
        go_round
        case rel => exact ⟨m + 1, by omega, by go_num, by rw [unhide HY hr]; rfl⟩
        case measure => simp [intOf]; omega
    · have em : m = n - 1 := by omega
      go_wp2_with fail
      go_ret
      exact ⟨by rw [← em]; exact congrArg (fun x : Nat => Ending.returned (.int .i64 (x : Int))) (unhide HQ), rfl⟩

set_option maxHeartbeats 400000 in
set_option maxRecDepth 100000 in
theorem join_any (w : World) (b o n i j : Nat) (R : Nat → Nat → Bool) (x : Int) (hn : n ≤ 8) (hl : LatM w b o n R) (hx : w.cell? ⟨b, o + 67 + i * 8 + j, none⟩ = some (.int .i64 x)) (hi : i < n) (hj : j < n) :
    Calls Tryz.prog 105 #[.pointer (some ⟨b, o, none⟩), .int .i64 (i : Int), .int .i64 (j : Int)] w fun e w' => e = .returned (.int .i64 x) ∧ w' = w := by
  have hc := hl.cnt
  have q1 : decide (0 ≤ (i : Int) ∧ (i : Int) < (n : Int)) = true := by simp; omega
  have q2 : decide (0 ≤ (j : Int) ∧ (j : Int) < (n : Int)) = true := by simp; omega
  have hi' : (i : Int) < 8 := by omega
  have hj' : (j : Int) < 8 := by omega
  go_enter Tryz.func105, Tryz.ntmps105
  go_wp2_with (go_at_call 98; refine (has_any _ _ _ _ _ hc).mono ?_; rintro e w' ⟨rfl, rfl⟩)
  go_ret
  exact ⟨rfl, rfl⟩

end Go.Proofs.YtfcflnnleadpkaaGreat

namespace Go.Proofs.YtfcflnnleadpkaaGreat
open Go.RowKit

/-- A lattice with its joins and its bottom. -/
def fullL (n : Nat) (R : Nat → Nat → Bool) : Array Value := latJ 0 0 n R (jTo n R n 0) (fbK R (n - 1) : Nat)
/-- A lattice as 'readLevels' answers it. -/
def levA (s : ByteArray) (a p : Int) (n : Nat) : Array Value := if a = 0 then fullL n (cl s n) else latC a p n noT
def LevPost (s : ByteArray) (e : Ending) : Prop := ∃ (a p : Int) (n : Nat), ReadPost s a p n ∧ n ≤ 8 ∧ e = .returned (.agg (levA s a p n))
theorem fullL_size (n : Nat) (R : Nat → Nat → Bool) : (fullL n R).size = 132 := latJ_size _ _ _ _ _ _
theorem fullL_all (n : Nat) (R : Nat → Nat → Bool) : (fullL n R).all (·.oneCell') = true := latJ_all _ _ _ _ _ _
theorem levA_0 (s : ByteArray) (p : Int) (n : Nat) : levA s 0 p n = fullL n (cl s n) := by unfold levA; rw [if_pos rfl]
theorem levA_e (s : ByteArray) {a : Int} (h : a ≠ 0) (p : Int) (n : Nat) : levA s a p n = latC a p n noT := by unfold levA; rw [if_neg h]
theorem levA_size (s : ByteArray) (a p : Int) (n : Nat) : (levA s a p n).size = 132 := by
  unfold levA; split
  · exact fullL_size _ _
  · exact latC_size _ _ _ _
theorem levA_all (s : ByteArray) (a p : Int) (n : Nat) : (levA s a p n).all (·.oneCell') = true := by
  unfold levA; split
  · exact fullL_all _ _
  · exact latC_all _ _ _ _

set_option maxHeartbeats 1000000 in
set_option maxRecDepth 100000 in
theorem readLevels_long (w : World) (s : ByteArray) (h : 65 < s.size) :
    Calls Tryz.prog 20 #[.string s] w fun e w' => e = .returned (.agg (latC 1 0 0 noT)) ∧ Below w.heap.size w w' := by
  have hz := zero_lat
  have z0 := latC_size 0 0 0 noT
  have z1 := latC_size 1 0 0 noT
  have s0 := latC_set0 0 1 0 0 noT
  have s1 := latC_set1 1 0 0 0 noT
  have hgt : (65 : Int) < (s.size : Int) := by omega
  have hst := store_lat (w.alloc (.cells (latC 0 0 0 noT) 46)) w.heap.size 0 0 0 1 0 0 noT noT (heap_alloc_last w _)
  rw [World.setRow_alloc_new] at hst
  go_enter Tryz.func20, Tryz.ntmps20
  go_wp2_with fail
  refine bodyPost_ret (v := .agg (latC 1 0 0 noT)) (ret_lat Tryz.results20 _ _ w.heap.size _ _ _ _ rfl (heap_alloc_last w _)) rfl ⟨rfl, ?_⟩
  exact (Below.refl _ _).alloc (Nat.le_refl _) _

set_option maxHeartbeats 1000000 in
set_option maxRecDepth 100000 in
theorem readLevels_bad (w : World) (s : ByteArray) (h : s.size ≤ 65)
    (hp : ∀ w, Calls Tryz.prog 40 #[.string s] w fun e w' => (∃ k : Nat, BadAt s k ∧ e = .returned (.agg (latC 2 k 0 noT))) ∧ Below w.heap.size w w') :
    Calls Tryz.prog 20 #[.string s] w fun e w' => (∃ k : Nat, BadAt s k ∧ e = .returned (.agg (latC 2 k 0 noT))) ∧ Below w.heap.size w w' := by
  have hz := zero_lat
  have HP := hide hp
  clear hp
  have z0 := latC_size 0 0 0 noT
  have hgt : decide ((65 : Int) < (s.size : Int)) = false := by simp; omega
  go_enter Tryz.func20, Tryz.ntmps20
  go_wp2_with fail
  refine (unhide HP _).mono ?_
  rintro e w1 ⟨⟨k, hk, rfl⟩, hb⟩
  have HK := hide hk
  clear hk
  have hst := store_lat (w1.alloc (.cells (latC 0 0 0 noT) 46)) w1.heap.size 0 0 0 2 k 0 noT noT (heap_alloc_last w1 _)
  rw [World.setRow_alloc_new] at hst
  have z1 := latC_size 2 k 0 noT
  have c0 := latC_g0 2 k 0 noT
  have hsz : w.heap.size < w1.heap.size := by have := hb.size; simp at this; omega
  have g0 : (w1.alloc (.cells (latC 2 k 0 noT) 46)).heap[w.heap.size]? = some (.cells (latC 0 0 0 noT) 46) :=
    (heap_alloc_old _ _ hsz).trans ((hb.block _ (by simp)).trans (heap_alloc_last w _))
  have hst2 := store_lat _ _ 0 0 0 2 k 0 noT noT g0
  have HG := hide g0
  have HG1 := hide (heap_alloc_last w1 (.cells (latC 2 k 0 noT) 46))
  clear g0
  go_wp2_with (refine wpList_load_row rfl 46 _ rfl w1.heap.size rfl 46 _ (0, 0) _ (unhide HG1) Tryz.underlying46 rfl (by rw [latC_size]; exact size_lat) ?_)
  refine bodyPost_ret (v := .agg (latC 2 k 0 noT)) (ret_lat Tryz.results20 _ _ w.heap.size _ _ _ _ rfl (setRow_heap _ _ _ _ _ _ (unhide HG))) rfl ⟨⟨k, unhide HK, rfl⟩, ?_⟩
  exact below_setRow ((((Below.refl _ _).alloc (Nat.le_refl _) _).trans (hb.mono (by simp))).trans ((Below.refl _ _).alloc (by omega) _)) (Nat.le_refl _) _

theorem cl_refl (s : ByteArray) (n i : Nat) (hi : i < n) : cl s n i i = true := wf_refl n _ n i hi
theorem cl_well (s : ByteArray) (n : Nat) : Hm.wellC (cl s n) n = Hm.wellR (cl s n) n := Hm.well_same _ _ (fun i hi => cl_refl s n i hi)

set_option maxHeartbeats 1000000 in
set_option maxRecDepth 100000 in
theorem readLevels_good (w : World) (s : ByteArray) (n : Nat) (h : s.size ≤ 65) (h1 : 1 ≤ n) (hn : n ≤ 8)
    (hp : ∀ w, Calls Tryz.prog 40 #[.string s] w fun e w' => e = .returned (.agg (latC 0 0 n (pairsTo s n (s.size / 2)))) ∧ Below w.heap.size w w') :
    Calls Tryz.prog 20 #[.string s] w fun e w' => ((Hm.wellR (cl s n) n = true ∧ e = .returned (.agg (fullL n (cl s n)))) ∨ (Hm.wellR (cl s n) n = false ∧ e = .returned (.agg (latC 3 0 0 noT)))) ∧ Below w.heap.size w w' := by
  have hz := zero_lat
  have HP := hide hp
  clear hp
  have HN := hide hn
  have H1 := hide h1
  clear h1
  have HW := hide (cl_well s n)
  have HCL := hide (show wf n (pairsTo s n (s.size / 2)) n = cl s n from rfl)
  generalize pairsTo s n (s.size / 2) = T at *
  have z0 := latC_size 0 0 0 noT
  have hgt : decide ((65 : Int) < (s.size : Int)) = false := by simp; omega
  go_enter Tryz.func20, Tryz.ntmps20
  go_wp2_with fail
  refine (unhide HP _).mono ?_
  rintro e w1 ⟨rfl, hb⟩
  have hst := store_lat (w1.alloc (.cells (latC 0 0 0 noT) 46)) w1.heap.size 0 0 0 0 0 n noT T (heap_alloc_last w1 _)
  rw [World.setRow_alloc_new] at hst
  have z1 := latC_size 0 0 n T
  have c0 := latC_g0 0 0 n T
  have hsz : w.heap.size < w1.heap.size := by have := hb.size; simp at this; omega
  go_wp2_with fail
  refine (addSteps_any _ _ _ _ _ (unhide HN) (heap_alloc_last w1 _)).mono ?_
  rintro e w2 ⟨rfl, hw2⟩
  rw [World.setRow_alloc_new, unhide HCL] at hw2
  subst hw2
  clear hst z1 c0
  go_wp2_with fail
  refine (wellOrdered_any _ _ _ _ (unhide HN) (latC_lat (heap_alloc_last w1 _))).mono ?_
  rintro e w3 ⟨rfl, hb3⟩
  rw [unhide HW]
  have g0 : w3.heap[w.heap.size]? = some (.cells (latC 0 0 0 noT) 46) :=
    (hb3.block _ (by simp; omega)).trans ((heap_alloc_old _ _ hsz).trans ((hb.block _ (by simp)).trans (heap_alloc_last w _)))
  have g1 : w3.heap[w1.heap.size]? = some (.cells (latC 0 0 n (cl s n)) 46) := (hb3.block _ (by simp)).trans (heap_alloc_last w1 _)
  have HG := hide g0
  have HG1 := hide g1
  have HBel := hide (show Below w.heap.size w w3 from (((Below.refl _ _).alloc (Nat.le_refl _) _).trans (hb.mono (by simp))).trans (((Below.refl _ _).alloc (by omega) _).trans (hb3.mono (by simp; omega))))
  clear g1 hb3
  cases hw : Hm.wellR (cl s n) n
  · have z1 := latC_size 3 0 0 noT
    have s0 := latC_set0 0 3 0 0 noT
    have s1 := latC_set1 3 0 0 0 noT
    have hst := store_lat w3 _ 0 0 0 3 0 0 noT noT g0
    clear g0
    go_wp2_with fail
    refine bodyPost_ret (v := .agg (latC 3 0 0 noT)) (ret_lat Tryz.results20 _ _ w.heap.size _ _ _ _ rfl (setRow_heap _ _ _ _ _ _ (unhide HG))) rfl ⟨Or.inr ⟨hw, rfl⟩, ?_⟩
    exact below_setRow (unhide HBel) (Nat.le_refl _) _
  · clear g0
    go_wp2_with fail
    refine (keepJoins_any _ _ _ _ _ (unhide HN) (unhide HG1)).mono ?_
    rintro e w4 ⟨rfl, q, hw4⟩
    have HN1 := hide (unhide H1)
    have hne : w1.heap.size ≠ w.heap.size := by omega
    have g0 : w4.heap[w.heap.size]? = some (.cells (latC 0 0 0 noT) 46) := by
      rw [hw4]
      exact (setRow_other w3 _ _ _ (Ne.symm hne)).trans (unhide HG)
    have g1 : w4.heap[w1.heap.size]? = some (.cells (latJ 0 0 n (cl s n) (jTo n (cl s n) n 0) 0) 46) := by
      rw [hw4]
      exact setRow_heap w3 _ _ _ _ _ (unhide HG1)
    have HBel4 := hide (show Below w.heap.size w w4 by
      rw [hw4]
      exact below_drewN' (below_setRow (unhide HBel) (show w.heap.size ≤ w1.heap.size by omega) _) q)
    clear hw4 hne
    have HG4 := hide g0
    have HG41 := hide g1
    clear g0 g1
    go_wp2_with fail
    refine (findBottom_any _ _ _ _ (unhide HN1) (unhide HN) (latJ_lat (unhide HG41))).mono ?_
    rintro e w5 ⟨rfl, e5⟩
    rw [e5]
    clear e5
    have c131 : w4.cell? ⟨w1.heap.size, 131, none⟩ = some (.int .i64 0) := (rowF_cell (unhide HG41) (by omega)).trans rfl
    have f131 := frozen_of_row w4 w1.heap.size 131 _ _ (unhide HG41)
    have hset := setCell_eq_setRow w4 w1.heap.size 131 _ _ _ (.int .i64 (fbK (cl s n) (n - 1) : Nat)) (unhide HG41)
    rw [latJ_setz] at hset
    have HSet := hide hset
    clear hset
    have HG5 := hide (show (w4.setCell ⟨w1.heap.size, 131, none⟩ (.int .i64 (fbK (cl s n) (n - 1) : Nat))).heap[w1.heap.size]? = some (.cells (fullL n (cl s n)) 46) by
      rw [unhide HSet]; exact setRow_heap w4 _ _ _ _ _ (unhide HG41))
    have HG50 := (show (w4.setCell ⟨w1.heap.size, 131, none⟩ (.int .i64 (fbK (cl s n) (n - 1) : Nat))).heap[w.heap.size]? = some (.cells (latC 0 0 0 noT) 46) by
      rw [unhide HSet]; exact (setRow_other w4 _ _ _ (by omega)).trans (unhide HG4))
    have hst := store_arr size_lat _ _ _ (fullL n (cl s n)) (latC_size _ _ _ _) (fullL_size _ _) (fullL_all _ _) HG50
    have HG6 := hide HG50
    clear HG50
    have z1 := fullL_size n (cl s n)
    have HBel5 := hide (show Below w.heap.size w (w4.setCell ⟨w1.heap.size, 131, none⟩ (.int .i64 (fbK (cl s n) (n - 1) : Nat))) by
      rw [unhide HSet]; exact below_setRow (unhide HBel4) (by omega) _)
    go_wp2_with (refine wpList_load_row rfl 46 _ rfl w1.heap.size rfl 46 _ (0, 0) _ (unhide HG5) Tryz.underlying46 rfl (by rw [fullL_size]; exact size_lat) ?_)
    refine bodyPost_ret (v := .agg (fullL n (cl s n))) (ret_latJ Tryz.results20 _ _ w.heap.size _ _ _ _ _ _ rfl (setRow_heap _ _ _ _ _ _ (unhide HG6))) rfl ⟨Or.inl ⟨hw, rfl⟩, ?_⟩
    exact below_setRow (unhide HBel5) (Nat.le_refl _) _

theorem readLevels_any (w : World) (s : ByteArray) :
    Calls Tryz.prog 20 #[.string s] w fun e w' => LevPost s e ∧ Below w.heap.size w w' := by
  by_cases h : s.size ≤ 65
  · by_cases hf : ∃ n, FirstOk s n
    · obtain ⟨n, hf⟩ := hf
      have hn8 : n ≤ 8 := hf.2.2.2
      by_cases hgd : GoodOrd s n
      · refine (readLevels_good w s n h hf.2.2.1 hn8 (fun w => (readPairs_ok w s n hf h).mono ?_)).mono ?_
        · rintro e w' ⟨h1, h2⟩
          rcases h1 with ⟨k, h3, _⟩ | ⟨_, h3⟩
          · exact absurd h3 (fun h => Good_not_Bad hgd h)
          · exact ⟨h3, h2⟩
        · rintro e w' ⟨h1, h2⟩
          rcases h1 with ⟨h1, rfl⟩ | ⟨h1, rfl⟩
          · exact ⟨⟨0, 0, n, Or.inr (Or.inr (Or.inr ⟨h, hgd, h1, rfl, rfl⟩)), hn8, by rw [levA_0]⟩, h2⟩
          · exact ⟨⟨3, 0, 0, Or.inr (Or.inr (Or.inl ⟨h, n, hgd, h1, rfl, rfl, rfl⟩)), by omega, by rw [levA_e _ (by omega)]; rfl⟩, h2⟩
      · refine (readLevels_bad w s h (fun w => (readPairs_ok w s n hf h).mono ?_)).mono ?_
        · rintro e w' ⟨h1, h2⟩
          rcases h1 with h3 | ⟨h3, _⟩
          · exact ⟨h3, h2⟩
          · exact absurd h3 hgd
        · rintro e w' ⟨⟨k, h1, rfl⟩, h2⟩
          exact ⟨⟨2, k, 0, Or.inr (Or.inl ⟨h, k, h1, rfl, rfl, rfl⟩), by omega, by rw [levA_e _ (by omega)]; rfl⟩, h2⟩
    · have hf' : ∀ n, ¬ FirstOk s n := fun n hn => hf ⟨n, hn⟩
      refine (readLevels_bad w s h (fun w => (readPairs_bad0 w s hf').mono ?_)).mono ?_
      · rintro e w' ⟨h1, h2⟩
        exact ⟨⟨0, Or.inl ⟨rfl, hf'⟩, h1⟩, h2⟩
      · rintro e w' ⟨⟨k, h1, rfl⟩, h2⟩
        exact ⟨⟨2, k, 0, Or.inr (Or.inl ⟨h, k, h1, rfl, rfl, rfl⟩), by omega, by rw [levA_e _ (by omega)]; rfl⟩, h2⟩
  · refine (readLevels_long w s (by omega)).mono ?_
    rintro e w' ⟨rfl, h2⟩
    exact ⟨⟨1, 0, 0, Or.inl ⟨by omega, rfl, rfl, rfl⟩, by omega, by rw [levA_e _ (by omega)]; rfl⟩, h2⟩

end Go.Proofs.YtfcflnnleadpkaaGreat

namespace Go.Proofs.YtfcflnnleadpkaaGreat
open Go.RowKit

theorem ReadPost_p0 {s : ByteArray} {a p : Int} {n : Nat} (h : ReadPost s a p n) : a = 0 → p = 0 := by
  intro ha
  rcases h with ⟨_, h, _⟩ | ⟨_, _, _, h, _⟩ | ⟨_, _, _, _, h, _⟩ | ⟨_, _, _, _, h⟩ <;> omega
theorem levA_g0 (s : ByteArray) {a p : Int} {n : Nat} (_ : a = 0 → p = 0) (h : 0 < (levA s a p n).size) : (levA s a p n)[0] = .int .i64 a := by
  by_cases ha : a = 0
  · subst ha; simp only [levA_0]; exact latJ_g0 _ _ _ _ _ _ (by rw [levA_0] at h; exact h)
  · simp only [levA_e s ha]; exact latC_g0 _ _ _ _ (by rw [levA_e s ha] at h; exact h)
theorem levA_g1 (s : ByteArray) {a p : Int} {n : Nat} (h0 : a = 0 → p = 0) (h : 1 < (levA s a p n).size) : (levA s a p n)[1] = .int .i64 p := by
  by_cases ha : a = 0
  · have hp := h0 ha
    subst ha; subst hp; simp only [levA_0]; exact latJ_g1 _ _ _ _ _ _ (by rw [levA_0] at h; exact h)
  · simp only [levA_e s ha]; exact latC_g1 _ _ _ _ (by rw [levA_e s ha] at h; exact h)

theorem fullL_lat {w : World} {b n : Nat} {R : Nat → Nat → Bool} {t : TypeId} {fr : Nat × Nat} (h : w.heap[b]? = some (.cells (fullL n R) t fr)) : LatM w b 0 n R := latJ_lat h
theorem fullL_jo {w : World} {b n i j : Nat} {R : Nat → Nat → Bool} {t : TypeId} {fr : Nat × Nat} (h : w.heap[b]? = some (.cells (fullL n R) t fr)) (hi : i < n) (hj : j < n) (hn : n ≤ 8) : w.cell? ⟨b, 0 + 67 + i * 8 + j, none⟩ = some (.int .i64 (Hm.joinI R n i j)) := by
  rw [show 0 + 67 + i * 8 + j = 67 + i * 8 + j by omega, rowF_cell h (by omega), latF_jj _ _ _ _ _ _ _ _ (by omega) (by omega), jTo_all _ _ _ _ hi hj]
theorem fullL_g0 (n : Nat) (R : Nat → Nat → Bool) (h : 0 < (fullL n R).size) : (fullL n R)[0] = .int .i64 0 := latJ_g0 _ _ _ _ _ _ h

end Go.Proofs.YtfcflnnleadpkaaGreat

namespace Go.Proofs.YtfcflnnleadpkaaGreat
open Go.RowKit

/-- The cells of a program, by index. -/
def prgF (e p : Int) (s : ByteArray) (lv nv np : Int) (S : Nat → Int) (T : Nat → Nat → Int) (cv : Value) (k : Nat) : Value :=
  if k = 0 then .int .i64 e else if k = 1 then .int .i64 p else if k = 2 then .string s else if k = 3 then .int .i64 lv else if k = 4 then .int .i64 nv else if k = 5 then .int .i64 np
  else if k < 11 then .int .i64 (S (k - 6)) else if k < 911 then .int .i64 (T ((k - 11) / 3) ((k - 11) % 3)) else cv
def prgC (e p : Int) (s : ByteArray) (lv nv np : Int) (S : Nat → Int) (T : Nat → Nat → Int) (cv : Value) : Array Value := rowF (prgF e p s lv nv np S T cv) 912
theorem prgF_one {e p : Int} {s : ByteArray} {lv nv np : Int} {S : Nat → Int} {T : Nat → Nat → Int} {cv : Value} (h : cv.oneCell' = true) (k : Nat) : (prgF e p s lv nv np S T cv k).oneCell' = true := by
  unfold prgF
  repeat' split
  all_goals first | rfl | exact h
theorem prgC_size (e p : Int) (s : ByteArray) (lv nv np : Int) (S : Nat → Int) (T : Nat → Nat → Int) (cv : Value) : (prgC e p s lv nv np S T cv).size = 912 := rowF_size _ _

/-- What stays of a flow while its labels rise. -/
structure FD where
  b : Nat
  n : Nat
  nv : Nat
  np : Nat
  R : Nat → Nat → Bool
  s : ByteArray
  S : Nat → Int
  T : Nat → Nat → Int
  cv : Value
def eB (b : Int) : Int := if b < 0 then 0 else 6
def pB (b : Int) : Int := if b < 0 then 0 else b
/-- The cells of a flow, by index. -/
def flwF (e p : Int) (L P : Nat → Value) (V X T : Nat → Nat) (ra : Bool) (k : Nat) : Value :=
  if k = 0 then .int .i64 e else if k = 1 then .int .i64 p else if k < 134 then L (k - 2) else if k < 1046 then P (k - 134)
  else if k < 1054 then .int .i64 (V (k - 1046) : Int) else if k < 1058 then .int .i64 (X (k - 1054) : Int) else if k < 1062 then .int .i64 (T (k - 1058) : Int) else .bool ra
def flC (D : FD) (st : WS) : Array Value :=
  rowF (flwF (eB st.bad) (pB st.bad) (latF 0 0 D.n D.R (jTo D.n D.R D.n 0) (fbK D.R (D.n - 1) : Nat)) (prgF 0 0 D.s D.n D.nv D.np D.S D.T D.cv) st.V st.X st.T st.ra) 1063
theorem flC_size (D : FD) (st : WS) : (flC D st).size = 1063 := rowF_size _ _

/-- A flow in memory. -/
def Fl (D : FD) (w : World) (st : WS) : Prop := w.heap[D.b]? = some (.cells (flC D st) 57 (0, 0))
variable {D : FD} {w w' w'' : World} {st : WS}
theorem Fl.c0 (h : Fl D w st) : w.cell? ⟨D.b, 0, none⟩ = some (.int .i64 (eB st.bad)) := rowF_cell h (by omega)
theorem Fl.c1 (h : Fl D w st) : w.cell? ⟨D.b, 1, none⟩ = some (.int .i64 (pB st.bad)) := rowF_cell h (by omega)
theorem Fl.lat (h : Fl D w st) : LatM w D.b 2 D.n D.R :=
  ⟨(rowF_cell h (by omega)).trans rfl, fun i j hi hj => by
    rw [rowF_cell h (by omega)]
    unfold flwF
    rw [if_neg (by omega), if_neg (by omega), if_pos (by omega), show 2 + 3 + i * 8 + j - 2 = 3 + i * 8 + j by omega, latF_ij _ _ _ _ _ _ _ _ hi hj]⟩
theorem Fl.jo (h : Fl D w st) {i j : Nat} (hi : i < D.n) (hj : j < D.n) (hn : D.n ≤ 8) : w.cell? ⟨D.b, 2 + 67 + i * 8 + j, none⟩ = some (.int .i64 (Hm.joinI D.R D.n i j)) := by
  rw [rowF_cell h (by omega)]
  unfold flwF
  rw [if_neg (by omega), if_neg (by omega), if_pos (by omega), show 2 + 67 + i * 8 + j - 2 = 67 + i * 8 + j by omega, latF_jj _ _ _ _ _ _ _ _ (by omega) (by omega), jTo_all _ _ _ _ hi hj]
theorem fbK_bot {n : Nat} {R : Nat → Nat → Bool} (A : Go.Proofs.YtfcflnnleadpkaaGreat.Lat n R) : ∀ k, k < n → bot R n ≤ k → fbK R k = bot R n := by
  intro k
  induction k with
  | zero => intro _ h; simp only [fbK]; omega
  | succ k ih =>
    intro hk hb
    simp only [fbK]
    by_cases e : bot R n = k + 1
    · have h1 : fbK R k < n := by have := fbK_le R k; omega
      rw [if_pos (by rw [← e]; exact A.bt _ h1), e]
    · rw [ih (by omega) (by omega)]
      by_cases h : R (k + 1) (bot R n) = true
      · have := A.L.anti (k + 1) (bot R n) hk (bot_lt A.n1) h (A.bt _ hk)
        omega
      · rw [if_neg h]
theorem fbK_eq {n : Nat} {R : Nat → Nat → Bool} (A : Go.Proofs.YtfcflnnleadpkaaGreat.Lat n R) : fbK R (n - 1) = bot R n := fbK_bot A (n - 1) (by have := A.n1; omega) (by have := bot_lt (R := R) A.n1; omega)
theorem Fl.bo (h : Fl D w st) (A : Go.Proofs.YtfcflnnleadpkaaGreat.Lat D.n D.R) : w.cell? ⟨D.b, 133, none⟩ = some (.int .i64 (bot D.R D.n : Nat)) := by
  rw [rowF_cell h (by omega), ← fbK_eq A]; rfl
theorem Fl.tx (h : Fl D w st) : w.cell? ⟨D.b, 136, none⟩ = some (.string D.s) := (rowF_cell h (by omega)).trans rfl
theorem Fl.cn (h : Fl D w st) : w.cell? ⟨D.b, 137, none⟩ = some (.int .i64 (D.n : Int)) := (rowF_cell h (by omega)).trans rfl
theorem Fl.cv (h : Fl D w st) : w.cell? ⟨D.b, 138, none⟩ = some (.int .i64 (D.nv : Int)) := (rowF_cell h (by omega)).trans rfl
theorem Fl.cp (h : Fl D w st) : w.cell? ⟨D.b, 139, none⟩ = some (.int .i64 (D.np : Int)) := (rowF_cell h (by omega)).trans rfl
theorem Fl.ps (h : Fl D w st) {k : Nat} (hk : k < 5) : w.cell? ⟨D.b, 140 + k, none⟩ = some (.int .i64 (D.S k)) := by
  rw [rowF_cell h (by omega)]
  unfold flwF prgF
  rw [if_neg (by omega), if_neg (by omega), if_neg (by omega), if_pos (by omega), if_neg (by omega), if_neg (by omega), if_neg (by omega), if_neg (by omega), if_neg (by omega), if_neg (by omega), if_pos (by omega), show 140 + k - 134 - 6 = k by omega]
theorem Fl.pt (h : Fl D w st) {i k : Nat} (hi : i < 300) (hk : k < 3) : w.cell? ⟨D.b, 145 + i * 3 + k, none⟩ = some (.int .i64 (D.T i k)) := by
  rw [rowF_cell h (by omega)]
  unfold flwF prgF
  rw [if_neg (by omega), if_neg (by omega), if_neg (by omega), if_pos (by omega), if_neg (by omega), if_neg (by omega), if_neg (by omega), if_neg (by omega), if_neg (by omega), if_neg (by omega), if_neg (by omega), if_pos (by omega), show (145 + i * 3 + k - 134 - 11) / 3 = i by omega, show (145 + i * 3 + k - 134 - 11) % 3 = k by omega]
theorem Fl.lv (h : Fl D w st) {k : Nat} (hk : k < 8) : w.cell? ⟨D.b, 1046 + k, none⟩ = some (.int .i64 (st.V k : Int)) := by
  rw [rowF_cell h (by omega)]
  unfold flwF
  rw [if_neg (by omega), if_neg (by omega), if_neg (by omega), if_neg (by omega), if_pos (by omega), show 1046 + k - 1046 = k by omega]
theorem Fl.lx (h : Fl D w st) {k : Nat} (hk : k < 4) : w.cell? ⟨D.b, 1054 + k, none⟩ = some (.int .i64 (st.X k : Int)) := by
  rw [rowF_cell h (by omega)]
  unfold flwF
  rw [if_neg (by omega), if_neg (by omega), if_neg (by omega), if_neg (by omega), if_neg (by omega), if_pos (by omega), show 1054 + k - 1054 = k by omega]
theorem Fl.lt (h : Fl D w st) {k : Nat} (hk : k < 4) : w.cell? ⟨D.b, 1058 + k, none⟩ = some (.int .i64 (st.T k : Int)) := by
  rw [rowF_cell h (by omega)]
  unfold flwF
  rw [if_neg (by omega), if_neg (by omega), if_neg (by omega), if_neg (by omega), if_neg (by omega), if_neg (by omega), if_pos (by omega), show 1058 + k - 1058 = k by omega]
theorem Fl.ra (h : Fl D w st) : w.cell? ⟨D.b, 1062, none⟩ = some (.bool st.ra) := (rowF_cell h (by omega)).trans rfl
theorem Fl.fz (h : Fl D w st) (j : Nat) : w.frozen? ⟨D.b, j, none⟩ = false := frozen_of_row w D.b j _ _ h

theorem flwF_lab {e p : Int} {L P : Nat → Value} {V X T V' X' T' : Nat → Nat} {ra ra' : Bool} {k a : Nat} (h : k ≠ a) (hV : ∀ j, 1046 + j ≠ a → V j = V' j) (hX : ∀ j, 1054 + j ≠ a → X j = X' j) (hT : ∀ j, 1058 + j ≠ a → T j = T' j)
    (hr : a ≠ 1062 → ra = ra') (h3 : k < 1063) : flwF e p L P V X T ra k = flwF e p L P V' X' T' ra' k := by
  unfold flwF
  by_cases h1 : k < 1046
  · repeat' split
    all_goals first | rfl | omega
  · have a0 : ¬ k = 0 := by omega
    have a1 : ¬ k = 1 := by omega
    have a2 : ¬ k < 134 := by omega
    simp only [a0, a1, a2, h1, if_false]
    by_cases h4 : k < 1054
    · rw [if_pos h4, if_pos h4, hV (k - 1046) (by omega)]
    · rw [if_neg h4, if_neg h4]
      by_cases h5 : k < 1058
      · rw [if_pos h5, if_pos h5, hX (k - 1054) (by omega)]
      · rw [if_neg h5, if_neg h5]
        by_cases h6 : k < 1062
        · rw [if_pos h6, if_pos h6, hT (k - 1058) (by omega)]
        · rw [if_neg h6, if_neg h6, hr (by omega)]
theorem Fl.setV (h : Fl D w st) {k x : Nat} (hk : k < 8) : Fl D (w.setCell ⟨D.b, 1046 + k, none⟩ (.int .i64 (x : Int))) { st with V := setF st.V k x } := by
  unfold Fl
  rw [setCell_eq_setRow w D.b _ _ _ _ _ h, show (flC D st).setIfInBounds (1046 + k) (.int .i64 (x : Int)) = flC D { st with V := setF st.V k x } from ?_]
  · exact setRow_heap w D.b _ _ _ _ h
  · refine rowF_set ?_ (fun j hj hne => flwF_lab (a := 1046 + k) hne (fun j h => ?_) (fun _ _ => rfl) (fun _ _ => rfl) (fun _ => rfl) hj)
    · unfold flwF
      rw [if_neg (by omega), if_neg (by omega), if_neg (by omega), if_neg (by omega), if_pos (by omega), show 1046 + k - 1046 = k by omega]
      show Value.int .i64 ((setF st.V k x k : Nat) : Int) = _
      unfold setF; rw [if_pos rfl]
    · show st.V j = setF st.V k x j
      unfold setF; rw [if_neg (by omega)]
theorem Fl.setX (h : Fl D w st) {k x : Nat} (hk : k < 4) : Fl D (w.setCell ⟨D.b, 1054 + k, none⟩ (.int .i64 (x : Int))) { st with X := setF st.X k x } := by
  unfold Fl
  rw [setCell_eq_setRow w D.b _ _ _ _ _ h, show (flC D st).setIfInBounds (1054 + k) (.int .i64 (x : Int)) = flC D { st with X := setF st.X k x } from ?_]
  · exact setRow_heap w D.b _ _ _ _ h
  · refine rowF_set ?_ (fun j hj hne => flwF_lab (a := 1054 + k) hne (fun _ _ => rfl) (fun j h => ?_) (fun _ _ => rfl) (fun _ => rfl) hj)
    · unfold flwF
      rw [if_neg (by omega), if_neg (by omega), if_neg (by omega), if_neg (by omega), if_neg (by omega), if_pos (by omega), show 1054 + k - 1054 = k by omega]
      show Value.int .i64 ((setF st.X k x k : Nat) : Int) = _
      unfold setF; rw [if_pos rfl]
    · show st.X j = setF st.X k x j
      unfold setF; rw [if_neg (by omega)]
theorem Fl.setT (h : Fl D w st) {k x : Nat} (hk : k < 4) : Fl D (w.setCell ⟨D.b, 1058 + k, none⟩ (.int .i64 (x : Int))) { st with T := setF st.T k x } := by
  unfold Fl
  rw [setCell_eq_setRow w D.b _ _ _ _ _ h, show (flC D st).setIfInBounds (1058 + k) (.int .i64 (x : Int)) = flC D { st with T := setF st.T k x } from ?_]
  · exact setRow_heap w D.b _ _ _ _ h
  · refine rowF_set ?_ (fun j hj hne => flwF_lab (a := 1058 + k) hne (fun _ _ => rfl) (fun _ _ => rfl) (fun j h => ?_) (fun _ => rfl) hj)
    · unfold flwF
      rw [if_neg (by omega), if_neg (by omega), if_neg (by omega), if_neg (by omega), if_neg (by omega), if_neg (by omega), if_pos (by omega), show 1058 + k - 1058 = k by omega]
      show Value.int .i64 ((setF st.T k x k : Nat) : Int) = _
      unfold setF; rw [if_pos rfl]
    · show st.T j = setF st.T k x j
      unfold setF; rw [if_neg (by omega)]
theorem Fl.setR (h : Fl D w st) (r : Bool) : Fl D (w.setCell ⟨D.b, 1062, none⟩ (.bool r)) { st with ra := r } := by
  unfold Fl
  rw [setCell_eq_setRow w D.b _ _ _ _ _ h, show (flC D st).setIfInBounds 1062 (.bool r) = flC D { st with ra := r } from ?_]
  · exact setRow_heap w D.b _ _ _ _ h
  · exact rowF_set rfl (fun j hj hne => flwF_lab (a := 1062) hne (fun _ _ => rfl) (fun _ _ => rfl) (fun _ _ => rfl) (fun h => absurd rfl h) hj)
theorem Fl.setB (h : Fl D w st) {e p b : Int} (he : eB b = e) (hp : pB b = p) : Fl D ((w.setCell ⟨D.b, 0, none⟩ (.int .i64 e)).setCell ⟨D.b, 1, none⟩ (.int .i64 p)) { st with bad := b } := by
  unfold Fl
  rw [setCell_eq_setRow w D.b _ _ _ _ _ h, setCell_eq_setRow _ D.b _ _ _ _ _ (setRow_heap w D.b _ _ _ _ h), setRow_setRow]
  rw [show ((flC D st).setIfInBounds 0 (.int .i64 e)).setIfInBounds 1 (.int .i64 p) = flC D { st with bad := b } from ?_]
  · exact setRow_heap w D.b _ _ _ _ h
  · have h1 : (flC D st).setIfInBounds 0 (.int .i64 e) = rowF (flwF e (pB st.bad) (latF 0 0 D.n D.R (jTo D.n D.R D.n 0) (fbK D.R (D.n - 1) : Nat)) (prgF 0 0 D.s D.n D.nv D.np D.S D.T D.cv) st.V st.X st.T st.ra) 1063 :=
      rowF_set rfl (fun k hk hne => by unfold flwF; rw [if_neg hne, if_neg hne])
    rw [h1]
    refine rowF_set (by show Value.int .i64 (pB b) = _; rw [hp]) (fun k hk hne => ?_)
    show flwF _ _ _ _ _ _ _ _ k = flwF (eB b) (pB b) _ _ _ _ _ _ k
    rw [he]
    unfold flwF
    rw [if_neg hne, if_neg hne]

/-- What else is in memory is kept. -/
structure Kf (b : Nat) (w w' : World) : Prop where
  os : w'.os = w.os
  tape : w'.tape = w.tape
  output : w'.output = w.output
  size : w.heap.size ≤ w'.heap.size
  block : ∀ k, k < w.heap.size → k ≠ b → w'.heap[k]? = w.heap[k]?
theorem Kf.refl (b : Nat) (w : World) : Kf b w w := ⟨rfl, rfl, rfl, Nat.le_refl _, fun _ _ _ => rfl⟩
theorem Kf.trans {b : Nat} (h : Kf b w w') (k : Kf b w' w'') : Kf b w w'' :=
  ⟨k.os.trans h.os, k.tape.trans h.tape, k.output.trans h.output, Nat.le_trans h.size k.size, fun j h1 h2 => (k.block j (Nat.lt_of_lt_of_le h1 h.size) h2).trans (h.block j h1 h2)⟩
theorem Kf.of_below {b : Nat} (h : Below w.heap.size w w') : Kf b w w' := ⟨h.os, h.tape, h.output, h.size, fun k hk _ => h.block k hk⟩
theorem Kf.drewN {b : Nat} (h : Kf b w w') (q : Nat) : Kf b w (w'.drewN q) := ⟨h.os, h.tape, h.output, h.size, h.block⟩
theorem Kf.setCell {b : Nat} (h : Kf b w w') (j : Nat) (v : Value) {C : Array Value} {t : TypeId} {fr : Nat × Nat} (hg : w'.heap[b]? = some (.cells C t fr)) : Kf b w (w'.setCell ⟨b, j, none⟩ v) := by
  rw [setCell_eq_setRow w' b _ _ _ _ _ hg]
  exact ⟨h.os, h.tape, h.output, by rw [size_setRow]; exact h.size, fun k h1 h2 => (setRow_other w' b k _ h2).trans (h.block k h1 h2)⟩
theorem Fl.below (h : Fl D w st) (hb : Below w.heap.size w w') : Fl D w' st := (hb.block D.b (Array.getElem?_eq_some_iff.1 h).1).trans h
theorem Fl.drewN (h : Fl D w st) (q : Nat) : Fl D (w.drewN q) st := h
theorem Fl.drew (h : Fl D w st) : Fl D w.drew st := h

end Go.Proofs.YtfcflnnleadpkaaGreat

namespace Go.Proofs.YtfcflnnleadpkaaGreat
open Go.RowKit

set_option maxHeartbeats 400000 in
theorem pDigit (w : World) (b o k : Nat) (s : ByteArray) (hs : w.cell? ⟨b, o + 2, none⟩ = some (.string s)) (hk : k < s.size) (hc : 48 ≤ bt s k) :
    Calls Tryz.prog 82 #[.pointer (some ⟨b, o, none⟩), .int .i64 (k : Int)] w fun e w' => e = .returned (.int .i64 (bt s k - 48)) ∧ w' = w := by
  have hbq := bt_eq s k hk
  have ⟨hb0, hb1⟩ := bt_bd s k
  have hk' : (k : Int) < (s.size : Int) := by omega
  generalize bt s k = c at *
  go_enter Tryz.func82, Tryz.ntmps82
  go_wp2_with fail
  go_ret
  exact ⟨rfl, rfl⟩

set_option maxHeartbeats 400000 in
theorem pVar (w : World) (b o k : Nat) (s : ByteArray) (hs : w.cell? ⟨b, o + 2, none⟩ = some (.string s)) (hk : k < s.size) (hc : 97 ≤ bt s k) :
    Calls Tryz.prog 88 #[.pointer (some ⟨b, o, none⟩), .int .i64 (k : Int)] w fun e w' => e = .returned (.int .i64 (bt s k - 97)) ∧ w' = w := by
  have hbq := bt_eq s k hk
  have ⟨hb0, hb1⟩ := bt_bd s k
  have hk' : (k : Int) < (s.size : Int) := by omega
  generalize bt s k = c at *
  go_enter Tryz.func88, Tryz.ntmps88
  go_wp2_with fail
  go_ret
  exact ⟨rfl, rfl⟩

set_option maxHeartbeats 400000 in
theorem pOpen (w : World) (b o k : Nat) (s : ByteArray) (hs : w.cell? ⟨b, o + 2, none⟩ = some (.string s)) (hk : k < s.size) :
    Calls Tryz.prog 83 #[.pointer (some ⟨b, o, none⟩), .int .i64 (k : Int)] w fun e w' => e = .returned (.bool (bt s k == 63)) ∧ w' = w := by
  have hbq := bt_eq s k hk
  have ⟨hb0, hb1⟩ := bt_bd s k
  have hk' : (k : Int) < (s.size : Int) := by omega
  generalize bt s k = c at *
  go_enter Tryz.func83, Tryz.ntmps83
  go_wp2_with fail
  go_ret
  exact ⟨rfl, rfl⟩

set_option maxHeartbeats 400000 in
theorem pIsVar (w : World) (b o nv : Nat) (c : Int) (hv : w.cell? ⟨b, o + 4, none⟩ = some (.int .i64 (nv : Int))) (h0 : 0 ≤ c) (h1 : c ≤ 255) :
    Calls Tryz.prog 107 #[.pointer (some ⟨b, o, none⟩), .int .u8 c] w fun e w' => e = .returned (.bool (isVar nv c)) ∧ w' = w := by
  by_cases a1 : 97 ≤ c
  · have HF := hide (show isVar nv c = decide (c - 97 < (nv : Int)) by simp [isVar, a1])
    go_enter Tryz.func107, Tryz.ntmps107
    go_wp2_with fail
    go_ret
    exact ⟨by rw [unhide HF]; rfl, rfl⟩
  · have HF := hide (show isVar nv c = false by simp [isVar, a1])
    have a1' : decide (97 ≤ c) = false := by simpa using a1
    go_enter Tryz.func107, Tryz.ntmps107
    go_wp2_with fail
    go_ret
    exact ⟨by rw [unhide HF]; rfl, rfl⟩

set_option maxHeartbeats 400000 in
theorem pOp (w : World) (c : Int) :
    Calls Tryz.prog 108 #[.int .u8 c] w fun e w' => e = .returned (.bool (isOp c)) ∧ w' = w := by
  have HF := hide (show isOp c = (c == 43 || c == 45 || c == 42 || c == 47 || c == 60) from rfl)
  cases h1 : (c == 43)
  · cases h2 : (c == 45)
    · cases h3 : (c == 42)
      · cases h4 : (c == 47)
        · go_enter Tryz.func108, Tryz.ntmps108
          go_wp2_with fail
          go_ret
          exact ⟨by rw [unhide HF, h1, h2, h3, h4]; rfl, rfl⟩
        · go_enter Tryz.func108, Tryz.ntmps108
          go_wp2_with fail
          go_ret
          exact ⟨by rw [unhide HF, h1, h2, h3, h4]; rfl, rfl⟩
      · go_enter Tryz.func108, Tryz.ntmps108
        go_wp2_with fail
        go_ret
        exact ⟨by rw [unhide HF, h1, h2, h3]; rfl, rfl⟩
    · go_enter Tryz.func108, Tryz.ntmps108
      go_wp2_with fail
      go_ret
      exact ⟨by rw [unhide HF, h1, h2]; rfl, rfl⟩
  · go_enter Tryz.func108, Tryz.ntmps108
    go_wp2_with fail
    go_ret
    exact ⟨by rw [unhide HF, h1]; rfl, rfl⟩

variable {D : FD} {w : World} {st : WS}
/-- Joins and what is below, of a flow's levels. -/
theorem fJoin (A : Lat D.n D.R) (hn : D.n ≤ 8) (h : Fl D w st) {a b : Nat} (ha : a < D.n) (hb : b < D.n) :
    Calls Tryz.prog 105 #[.pointer (some ⟨D.b, 2, none⟩), .int .i64 (a : Int), .int .i64 (b : Int)] w fun e w' => e = .returned (.int .i64 (jn D.R D.n a b : Nat)) ∧ w' = w := by
  rw [← (A.L.jn_lt ha hb).2.1]
  exact join_any w D.b 2 D.n a b D.R _ hn h.lat (h.jo ha hb hn) ha hb
theorem fBelow (hn : D.n ≤ 8) (h : Fl D w st) {a b : Nat} (ha : a < D.n) (hb : b < D.n) :
    Calls Tryz.prog 77 #[.pointer (some ⟨D.b, 2, none⟩), .int .i64 (a : Int), .int .i64 (b : Int)] w fun e w' => e = .returned (.bool (D.R a b)) ∧ w' = w :=
  isBelow_any w D.b 2 D.n a b D.R hn h.lat ha hb

/-- The table of parts is right for an expression. -/
def tbE (c : Nat → Int) (nv : Nat) (T : Nat → Nat → Int) : Nat → Nat → Prop
  | 0, _ => True
  | f + 1, i => isOp (c i) = true → T i 0 = ((i + 1 : Nat) : Int) ∧ T i 1 = ((scE c nv f (i + 1)).1 : Int) ∧ tbE c nv T f (i + 1) ∧ tbE c nv T f (scE c nv f (i + 1)).1
/-- And for a statement. -/
def tbS (c : Nat → Int) (nv N np : Nat) (T : Nat → Nat → Int) : Nat → Nat → Prop
  | 0, _ => True
  | f + 1, i =>
    (c i = 44 ∨ c i = 116 → T i 0 = ((i + 1 : Nat) : Int) ∧ T i 1 = ((wfS c nv N np f (i + 1)).1 : Int) ∧ tbS c nv N np T f (i + 1) ∧ tbS c nv N np T f (wfS c nv N np f (i + 1)).1) ∧
    (c i = 61 → T i 0 = ((i + 1 : Nat) : Int) ∧ T i 1 = ((i + 2 : Nat) : Int) ∧ tbE c nv T f (i + 2)) ∧
    (c i = 105 → T i 0 = ((i + 1 : Nat) : Int) ∧ T i 1 = ((scE c nv f (i + 1)).1 : Int) ∧ T i 2 = ((wfS c nv N np f (scE c nv f (i + 1)).1).1 : Int) ∧ tbE c nv T f (i + 1) ∧ tbS c nv N np T f (scE c nv f (i + 1)).1 ∧ tbS c nv N np T f (wfS c nv N np f (scE c nv f (i + 1)).1).1) ∧
    (c i = 119 → T i 0 = ((i + 1 : Nat) : Int) ∧ T i 1 = ((scE c nv f (i + 1)).1 : Int) ∧ tbE c nv T f (i + 1) ∧ tbS c nv N np T f (scE c nv f (i + 1)).1) ∧
    (c i = 114 → T i 0 = ((i + 1 : Nat) : Int) ∧ T i 1 = ((i + 2 : Nat) : Int)) ∧
    (c i = 111 → T i 0 = ((i + 1 : Nat) : Int) ∧ T i 1 = ((i + 2 : Nat) : Int) ∧ tbE c nv T f (i + 2)) ∧
    (c i = 99 → T i 0 = ((i + 1 : Nat) : Int))

/-- What a flow's data must be. -/
structure FOk (D : FD) : Prop where
  A : Lat D.n D.R
  n8 : D.n ≤ 8
  sz : D.s.size ≤ 300
  nv : D.nv ≤ 8
  np : D.np ≤ 4
  vs : D.nv ≤ D.s.size

theorem info_ex : (Tryz.prog.info? 136).map (fun i => (i.zero, i.size)) = some (some (.agg #[.int .i64 0, .bool false, .int .i64 0]), 3) := by kernel_rfl
theorem size_ex : (Tryz.prog.info? 136).map (·.size) = some 3 := (zero_of_info info_ex).2
theorem ret_ex {fn : Func} {k : Tmp} (h : fn.results = #[.cell k 136]) (tmps : Array Value) (w : World) (g : Nat) (a b c : Value)
    (hp : tmps.getD k undef = .pointer (some ⟨g, 0, none⟩)) (hg : w.heap[g]? = some (.cells #[a, b, c] 136 (0, 0))) :
    (results fn tmps).run Tryz.prog w = .ok (.agg #[a, b, c]) w :=
  results_cell_row h tmps w g _ _ _ _ hp hg Tryz.underlying136 rfl size_ex
theorem heap_two (w : World) (X Y : Obj) : ((w.alloc X).alloc Y).heap[w.heap.size]? = some X ∧ ((w.alloc X).alloc Y).heap[w.heap.size + 1]? = some Y := by
  refine ⟨(heap_alloc_old _ _ (by simp)).trans (heap_alloc_last w _), ?_⟩
  have := heap_alloc_last (w.alloc X) Y
  simpa using this
theorem below_two (w : World) (X Y : Obj) : Below w.heap.size w ((w.alloc X).alloc Y) := ((Below.refl _ _).alloc (Nat.le_refl _) _).alloc (by simp) _

def exA (r : Nat × Nat × Nat × Bool) : Array Value := #[.int .i64 (r.2.1 : Int), .bool r.2.2.2, .int .i64 (r.2.2.1 : Int)]

def ExOk (D : FD) (st : WS) (f : Nat) : Prop := ∀ (w : World) (i j : Nat), Fl D w st → scE (bt D.s) D.nv f i = (j, false) → tbE (bt D.s) D.nv D.T f i →
    Calls Tryz.prog 114 #[.pointer (some ⟨D.b, 0, none⟩), .int .i64 (i : Int)] w fun e w' => e = .returned (.agg (exA (labE (bt D.s) D.R D.n st.V f i))) ∧ Below w.heap.size w w'

set_option maxHeartbeats 2000000 in
set_option maxRecDepth 100000 in
theorem fExpr_leaf (O : FOk D) (f i j : Nat) (h : Fl D w st) (hsc : scE (bt D.s) D.nv (f + 1) i = (j, false)) (ho : isOp (bt D.s i) = false) :
    Calls Tryz.prog 114 #[.pointer (some ⟨D.b, 0, none⟩), .int .i64 (i : Int)] w fun e w' => e = .returned (.agg (exA (labE (bt D.s) D.R D.n st.V (f + 1) i))) ∧ Below w.heap.size w w' := by
  have HH := hide h
  have k1 := h.bo O.A
  have k2 := h.tx
  have HF1 := hide (fun (X Y : Obj) => Fl.below h (show Below w.heap.size w ((w.alloc X).alloc Y).drew from ((((Below.refl _ _).alloc (Nat.le_refl _) _).alloc (by simp) _) : Below w.heap.size w ((w.alloc X).alloc Y)).drew))
  have hbz : D.b < w.heap.size := (Array.getElem?_eq_some_iff.1 h).1
  have ⟨hb0, hb1⟩ := bt_bd D.s i
  obtain ⟨rfl, h2⟩ := scE_inv_leaf hsc ho
  clear hsc
  rcases h2 with h2 | ⟨h2, h3⟩
  · have hi := isDB_lt h2
    have hbq := bt_eq D.s i hi
    have hi' : (i : Int) < (D.s.size : Int) := by omega
    have HE := hide (labE_dig (R := D.R) (n := D.n) (V := st.V) (f := f) ho h2)
    have hv : isVar D.nv (bt D.s i) = false := by have := (isDB_iff _ _).1 h2; unfold isVar; simp; omega
    clear h2
    go_enter Tryz.func114, Tryz.ntmps114
    go_wp2_with fail
    go_region
    all_goals
      go_wp2_with fail
      refine (pIsVar _ _ 134 D.nv _ (unhide HF1 _ _).cv hb0 hb1).mono ?_
      rintro e w' ⟨rfl, rfl⟩
      rw [hv]
      go_wp2_with fail
      refine (pOp _ _).mono ?_
      rintro e w' ⟨rfl, rfl⟩
      rw [ho]
      go_wp2_with fail
      refine bodyPost_ret (ret_ex Tryz.results114 _ _ w.heap.size _ _ _ rfl (heap_two w _ _).1) rfl ⟨?_, (below_two w _ _).drew⟩
      rw [unhide HE]; rfl
  · have hi := isVar_lt h3
    have hbq := bt_eq D.s i hi
    have hi' : (i : Int) < (D.s.size : Int) := by omega
    have HE := hide (labE_var (R := D.R) (n := D.n) (V := st.V) (f := f) ho h2)
    obtain ⟨k, hk, hkn⟩ := isVar_nat h3
    have kv := h.lv (k := k) (by have := O.nv; omega)
    have hk8 : (k : Int) < 8 := by have := O.nv; omega
    have h97 : 97 ≤ bt D.s i := by omega
    have HK := hide (show (bt D.s i - 97).toNat = k by omega)
    have HKK := hide hk
    have hv := h3
    clear h2 h3 hk
    go_enter Tryz.func114, Tryz.ntmps114
    go_wp2_with fail
    go_region
    all_goals
      go_wp2_with fail
      refine (pIsVar _ _ 134 D.nv _ (unhide HF1 _ _).cv hb0 hb1).mono ?_
      rintro e w' ⟨rfl, rfl⟩
      rw [hv]
      go_wp2_with fail
      go_region_with (go_at_call 88; refine (pVar _ _ 134 _ _ ((unhide HF1 _ _).drew).tx hi h97).mono ?_; rintro e w' ⟨rfl, rfl⟩; rw [unhide HKK])
      all_goals
        go_wp2_with fail
        refine (pOp _ _).mono ?_
        rintro e w' ⟨rfl, rfl⟩
        rw [ho]
        go_wp2_with fail
        refine bodyPost_ret (ret_ex Tryz.results114 _ _ w.heap.size _ _ _ rfl (heap_two w _ _).1) rfl ⟨?_, (below_two w _ _).drew.drew⟩
        rw [unhide HE, unhide HK]; rfl

end Go.Proofs.YtfcflnnleadpkaaGreat
