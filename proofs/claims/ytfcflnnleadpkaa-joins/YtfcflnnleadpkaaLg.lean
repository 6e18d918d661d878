import Derived.Test.YtfcflnnleadpkaaLf
import Derived.RegionTactic
import Derived.ChangeAlike
import Derived.BigRegion
namespace Go.Proofs.Ytfcflnnleadpkaa
open Go.RowKit

/-- What 'turned' has behind a rounds, and b of the next. -/
def trn (n : Nat) (R : Nat → Nat → Bool) (a b : Nat) : Nat → Nat → Bool := fun i j => if j < a ∨ (j = a ∧ i < b) then (if i < n then R j i else false) else false

theorem trn_zero (n : Nat) (R : Nat → Nat → Bool) : trn n R 0 0 = noT := by
  funext i j; unfold trn noT; rw [if_neg (by omega)]
theorem trn_step (n : Nat) (R : Nat → Nat → Bool) (a b : Nat) (hb : b < n) (x y : Nat) : updV (trn n R a b) b a (R a b) x y = trn n R a (b + 1) x y := by
  unfold updV trn
  by_cases e1 : x = b
  · by_cases e2 : y = a
    · subst e1; subst e2
      rw [if_pos (by simp), if_pos (by omega), if_pos hb]
    · have h : (x == b && y == a) = false := by simp [e2]
      rw [h]
      by_cases c : y < a ∨ (y = a ∧ x < b)
      · rw [if_pos c, if_pos (show y < a ∨ (y = a ∧ x < b + 1) by omega)]; rfl
      · rw [if_neg c, if_neg (show ¬ (y < a ∨ (y = a ∧ x < b + 1)) by omega)]; rfl
  · have h : (x == b && y == a) = false := by simp [e1]
    rw [h]
    by_cases c : y < a ∨ (y = a ∧ x < b)
    · rw [if_pos c, if_pos (show y < a ∨ (y = a ∧ x < b + 1) by omega)]; rfl
    · rw [if_neg c, if_neg (show ¬ (y < a ∨ (y = a ∧ x < b + 1)) by omega)]; rfl
theorem trn_next (n : Nat) (R : Nat → Nat → Bool) (a b : Nat) (hb : n ≤ b) : trn n R (a + 1) 0 = trn n R a b := by
  funext x y
  unfold trn
  by_cases hx : x < n
  · by_cases c : y < a ∨ (y = a ∧ x < b)
    · rw [if_pos c, if_pos (show y < a + 1 ∨ (y = a + 1 ∧ x < 0) by omega)]
    · rw [if_neg c, if_neg (show ¬ (y < a + 1 ∨ (y = a + 1 ∧ x < 0)) by omega)]
  · rw [if_neg hx]; split <;> split <;> rfl

theorem below_drewN' {B : Nat} {a w : World} (h : Below B a w) (q : Nat) : Below B a (w.drewN q) := ⟨h.os, h.tape, h.output, h.size, h.block⟩
theorem set_top {w : World} {A : Obj} {C C' : Array Value} {T : TypeId} {q off : Nat} {v : Value} (hC : C.setIfInBounds off v = C') :
    (((w.alloc A).alloc (.cells C T)).drewN q).setCell ⟨w.heap.size + 1, off, none⟩ v = ((w.alloc A).alloc (.cells C' T)).drewN q := by
  have h1 : ((w.alloc A).alloc (.cells C T)).heap[w.heap.size + 1]? = some (.cells C T (0, 0)) := by
    have := heap_alloc_last (w.alloc A) (.cells C T); simpa using this
  have h2 : (((w.alloc A).alloc (.cells C T)).drewN q).setCell ⟨w.heap.size + 1, off, none⟩ v = (((w.alloc A).alloc (.cells C T)).setCell ⟨w.heap.size + 1, off, none⟩ v).drewN q := rfl
  rw [h2, setCell_eq_setRow _ _ _ _ _ _ _ h1, hC]
  have h3 : w.heap.size + 1 = (w.alloc A).heap.size := by simp
  rw [h3, World.setRow_alloc_new]

set_option maxHeartbeats 2000000 in
set_option maxRecDepth 100000 in
theorem turned_any (w : World) (b n : Nat) (R : Nat → Nat → Bool) (hn : n ≤ 8) (hl : LatM w b 0 n R) :
    Calls Try.prog 68 #[.pointer (some ⟨b, 0, none⟩)] w fun e w' => e = .returned (.agg (latC 0 0 n (trn n R n 0))) ∧ Below w.heap.size w w' := by
  have hz := zero_lat
  have hc := hl.c0
  have hbz : b < w.heap.size := by
    have := block_lt_of_cell hc
    exact this
  have z0 := latC_size 0 0 0 noT
  have z1 := latC_size 0 0 n noT
  have s0 := latC_set2 0 0 0 n noT
  have hst := store_lat ((w.alloc (.cells (latC 0 0 0 noT) 76)).alloc (.cells (latC 0 0 0 noT) 76)) (w.heap.size + 1) 0 0 0 0 0 n noT noT (by have := heap_alloc_last (w.alloc (.cells (latC 0 0 0 noT) 76)) (.cells (latC 0 0 0 noT) 76); simpa using this)
  rw [show w.heap.size + 1 = (w.alloc (.cells (latC 0 0 0 noT) 76)).heap.size by simp, World.setRow_alloc_new] at hst
  rw [show (w.alloc (.cells (latC 0 0 0 noT) 76)).heap.size = w.heap.size + 1 by simp] at hst
  go_enter Try.func68, Try.ntmps68
  go_wp2_with fail
  clear hst s0 z1 hc
  have HL := hide hl
  clear hl
  have HS0 := hide (show (w.alloc (.cells (latC 0 0 0 noT) 76)).alloc (.cells (latC 0 0 n noT) 76) = ((w.alloc (.cells (latC 0 0 0 noT) 76)).alloc (.cells (latC 0 0 n (trn n R 0 0)) 76)).drewN 0 by rw [trn_zero]; rfl)
  go_loopw [4] (fun d wr => ∃ a q : Nat, a ≤ n ∧ d = .int .i64 (a : Int) ∧ wr = ((w.alloc (.cells (latC 0 0 0 noT) 76)).alloc (.cells (latC 0 0 n (trn n R a 0)) 76)).drewN q) (fun d _ => n - (intOf d).toNat)
  case atStart => exact ⟨0, 0, Nat.zero_le _, rfl, unhide HS0⟩
  case round =>
    obtain ⟨a, q, ha, rfl, rfl⟩ := hrel
    have hc := (unhide HL).c0
    by_cases hlt : a < n
    · have ha' : (a : Int) < 8 := by omega
      go_wp2_with fail
      go_loopw [5] (fun d wr => ∃ m q : Nat, m ≤ n ∧ d = .int .i64 (m : Int) ∧ wr = ((w.alloc (.cells (latC 0 0 0 noT) 76)).alloc (.cells (latC 0 0 n (trn n R a m)) 76)).drewN q) (fun d _ => n - (intOf d).toNat)
      case atStart => exact ⟨0, q, Nat.zero_le _, rfl, rfl⟩
      case round =>
        obtain ⟨m, q, hm, rfl, rfl⟩ := hrel
        by_cases hlm : m < n
        · have hm' : (m : Int) < 8 := by omega
          have hb1 := (unhide HL).b0 a m (by omega) (by omega)
          have hcc := latC_ij 0 0 n (trn n R a m) m a (by omega) (by omega)
          have hset := latC_set 0 0 n (trn n R a m) m a (R a m) (by omega) (by omega)
          have hz1 := latC_size 0 0 n (trn n R a m)
          go_wp2_with fail
          go_region
          go_wp2_with fail
          go_roundw
          case rel => exact ⟨m + 1, q + 1, by omega, by go_num, by rw [set_top (hC := hset), latC_congr 0 0 n _ _ (fun x y _ _ => trn_step n R a m hlm x y)]⟩
          case measure => simp [intOf]; omega
        · go_wp2_with fail
          go_roundw
          case rel => exact ⟨a + 1, q, by omega, by go_num, by rw [trn_next n R a m (by omega)]⟩
          case measure => simp [intOf]; omega
    · have ea : a = n := by omega
      subst ea
      have g0 : (((w.alloc (.cells (latC 0 0 0 noT) 76)).alloc (.cells (latC 0 0 a (trn a R a 0)) 76)).drewN q).heap[w.heap.size]? = some (.cells (latC 0 0 0 noT) 76) :=
        (heap_alloc_old _ _ (by simp)).trans (heap_alloc_last w _)
      have g1 : (((w.alloc (.cells (latC 0 0 0 noT) 76)).alloc (.cells (latC 0 0 a (trn a R a 0)) 76)).drewN q).heap[w.heap.size + 1]? = some (.cells (latC 0 0 a (trn a R a 0)) 76) := by
        have := heap_alloc_last (w.alloc (.cells (latC 0 0 0 noT) 76)) (.cells (latC 0 0 a (trn a R a 0)) 76); simpa using this
      have hst := store_lat _ _ 0 0 0 0 0 a noT (trn a R a 0) g0
      have HG := hide g0
      have HG1 := hide g1
      clear g0 g1
      go_wp2_with (refine wpList_load_row rfl 76 _ rfl (w.heap.size + 1) rfl 76 _ (0, 0) _ (unhide HG1) Try.underlying76 rfl (by rw [latC_size]; exact size_lat) ?_)
      refine bodyPost_ret (v := .agg (latC 0 0 a (trn a R a 0))) (ret_lat Try.results68 _ _ w.heap.size _ _ _ _ rfl (setRow_heap _ _ _ _ _ _ (unhide HG))) rfl ⟨rfl, ?_⟩
      exact below_setRow (below_drewN' (((Below.refl _ _).alloc (Nat.le_refl _) _).alloc (by simp) _) _) (Nat.le_refl _) _

end Go.Proofs.Ytfcflnnleadpkaa
