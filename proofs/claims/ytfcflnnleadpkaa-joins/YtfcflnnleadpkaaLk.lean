import Derived.Test.YtfcflnnleadpkaaLh
namespace Go.Proofs.Ytfcflnnleadpkaa
open Go.RowKit

/-- The joins that are kept behind a rows, and b of the next. -/
def jTo (n : Nat) (R : Nat → Nat → Bool) (a b : Nat) : Nat → Nat → Int := fun i j => if i < n ∧ j < n ∧ (i < a ∨ (i = a ∧ j < b)) then Hm.joinI R n i j else 0
theorem jTo_zero (n : Nat) (R : Nat → Nat → Bool) : jTo n R 0 0 = noJ := by
  funext i j; unfold jTo noJ; rw [if_neg (by omega)]
theorem jTo_step (n : Nat) (R : Nat → Nat → Bool) (a b : Nat) (ha : a < n) (hb : b < n) (x y : Nat) : updJ (jTo n R a b) a b (Hm.joinI R n a b) x y = jTo n R a (b + 1) x y := by
  unfold updJ jTo
  by_cases e : x = a ∧ y = b
  · obtain ⟨rfl, rfl⟩ := e
    rw [if_pos (by simp), if_pos ⟨ha, hb, by omega⟩]
  · have h : (x == a && y == b) = false := by
      cases h : (x == a && y == b) with
      | false => rfl
      | true => simp at h; exact absurd h e
    simp only [h, Bool.false_eq_true, if_false]
    by_cases c : x < n ∧ y < n ∧ (x < a ∨ (x = a ∧ y < b))
    · rw [if_pos c, if_pos (by omega)]
    · rw [if_neg c, if_neg (by omega)]
theorem jTo_next (n : Nat) (R : Nat → Nat → Bool) (a b : Nat) (hb : n ≤ b) : jTo n R (a + 1) 0 = jTo n R a b := by
  funext x y
  unfold jTo
  by_cases c : x < n ∧ y < n ∧ (x < a ∨ (x = a ∧ y < b))
  · rw [if_pos c, if_pos (by omega)]
  · rw [if_neg c, if_neg (by omega)]
theorem jTo_all (n : Nat) (R : Nat → Nat → Bool) (i j : Nat) (hi : i < n) (hj : j < n) : jTo n R n 0 i j = Hm.joinI R n i j := by
  unfold jTo; rw [if_pos ⟨hi, hj, by omega⟩]
theorem lat_setJ {w : World} {b : Nat} {n e p z : Int} {R : Nat → Nat → Bool} {J K : Nat → Nat → Int} {t : TypeId} {fr : Nat × Nat} (h : w.heap[b]? = some (.cells (latJ e p n R J z) t fr)) {i j : Nat} {v : Int} (hi : i < 8) (hj : j < 8)
    (hS : ∀ x y, updJ J i j v x y = K x y) : w.setCell ⟨b, 67 + i * 8 + j, none⟩ (.int .i64 v) = w.setRow b (latJ e p n R K z) := by
  rw [setCell_eq_setRow w b _ _ t fr _ h, latJ_set _ _ _ _ _ _ _ _ _ hi hj, latJ_congr _ _ _ R R _ K _ (fun _ _ _ _ => rfl) (fun x y _ _ => hS x y)]

theorem LatM.drewN {w : World} {b o n : Nat} {R : Nat → Nat → Bool} (h : LatM w b o n R) (q : Nat) : LatM (w.drewN q) b o n R := ⟨h.cnt, h.bel⟩
theorem LatM.drew {w : World} {b o n : Nat} {R : Nat → Nat → Bool} (h : LatM w b o n R) : LatM w.drew b o n R := ⟨h.cnt, h.bel⟩

set_option maxHeartbeats 1000000 in
set_option maxRecDepth 100000 in
theorem keepJoins_any (w : World) (b n : Nat) (R : Nat → Nat → Bool) (t : TypeId) (hn : n ≤ 8) (hg : w.heap[b]? = some (.cells (latC 0 0 n R) t (0, 0))) :
    Calls Try.prog 52 #[.pointer (some ⟨b, 0, none⟩)] w fun e w' => e = .returned (.tuple #[]) ∧ ∃ q : Nat, w' = (w.setRow b (latJ 0 0 n R (jTo n R n 0) 0)).drewN q := by
  have HG := hide (fun S : Nat → Nat → Int => setRow_heap w b _ (latJ 0 0 n R S 0) t (0, 0) hg)
  have HC := hide (fun S : Nat → Nat → Int => latJ_lat (setRow_heap w b _ (latJ 0 0 n R S 0) t (0, 0) hg))
  have HZ := hide (fun (S : Nat → Nat → Int) j => frozen_of_row (w.setRow b (latJ 0 0 n R S 0)) b j _ t (setRow_heap w b _ _ t (0, 0) hg))
  have HK := hide (fun (S : Nat → Nat → Int) (i j : Nat) (hi : i < 8) (hj : j < 8) => (rowF_cell (setRow_heap w b _ (latJ 0 0 n R S 0) t (0, 0) hg) (show 67 + i * 8 + j < 132 by omega)).trans (congrArg some (latF_jj 0 0 n R S 0 i j hi hj)))
  have HS := hide (show w = (w.setRow b (latJ 0 0 n R (jTo n R 0 0) 0)).drewN 0 by
    rw [jTo_zero, ← latC_J, setRow_self w b _ t (0, 0) hg]; rfl)
  clear hg
  go_enter Try.func52, Try.ntmps52
  go_wp2_with fail
  go_loopw [2] (fun d wr => ∃ a q : Nat, a ≤ n ∧ d = .int .i64 (a : Int) ∧ wr = (w.setRow b (latJ 0 0 n R (jTo n R a 0) 0)).drewN q) (fun d _ => n - (intOf d).toNat)
  case atStart => exact ⟨0, 0, Nat.zero_le _, rfl, unhide HS⟩
  case round =>
    obtain ⟨a, q, ha, rfl, rfl⟩ := hrel
    have hc := (unhide HC (jTo n R a 0)).c0
    by_cases hlt : a < n
    · have ha' : (a : Int) < 8 := by omega
      go_wp2_with fail
      clear hc
      go_loopw [3] (fun d wr => ∃ m q : Nat, m ≤ n ∧ d = .int .i64 (m : Int) ∧ wr = (w.setRow b (latJ 0 0 n R (jTo n R a m) 0)).drewN q) (fun d _ => n - (intOf d).toNat)
      case atStart => exact ⟨0, q, Nat.zero_le _, rfl, rfl⟩
      case round =>
        obtain ⟨m, q, hm, rfl, rfl⟩ := hrel
        have hc := (unhide HC (jTo n R a m)).c0
        by_cases hlm : m < n
        · have hm' : (m : Int) < 8 := by omega
          have hb := unhide HK (jTo n R a m) a m (by omega) (by omega)
          have hz := unhide HZ (jTo n R a m) (67 + a * 8 + m)
          go_wp2_with fail
          go_region_with (go_at_call 69; refine (findJoin_any _ _ 0 _ _ _ _ hn (((unhide HC (jTo n R a m)).drewN q).drew) hlt hlm).mono ?_; rintro e w' ⟨rfl, rfl⟩)
          all_goals
            go_wp2_with fail
            go_roundw
            case rel => exact ⟨m + 1, q + 1, by omega, by go_num, by
              rw [show ((w.setRow b (latJ 0 0 n R (jTo n R a m) 0)).drewN (q + 1)).setCell ⟨b, 67 + a * 8 + m, none⟩ (.int .i64 (Hm.joinI R n a m)) = ((w.setRow b (latJ 0 0 n R (jTo n R a m) 0)).setCell ⟨b, 67 + a * 8 + m, none⟩ (.int .i64 (Hm.joinI R n a m))).drewN (q + 1) from rfl,
                lat_setJ (unhide HG (jTo n R a m)) (by omega) (by omega) (fun x y => jTo_step n R a m hlt hlm x y), setRow_setRow]⟩
            case measure => simp [intOf]; omega
        · go_wp2_with fail
          go_roundw
          case rel => exact ⟨a + 1, q, by omega, by go_num, by rw [jTo_next n R a m (by omega)]⟩
          case measure => simp [intOf]; omega
    · have ea : a = n := by omega
      subst ea
      go_wp2_with fail
      go_end0
      exact ⟨rfl, q, rfl⟩

/-- The bottom that is found among the levels up to k. -/
def fbK (R : Nat → Nat → Bool) : Nat → Nat
  | 0 => 0
  | k + 1 => if R (k + 1) (fbK R k) = true then k + 1 else fbK R k
theorem fbK_le (R : Nat → Nat → Bool) : ∀ k, fbK R k ≤ k := by
  intro k
  induction k with
  | zero => exact Nat.le_refl _
  | succ k ih => simp only [fbK]; split <;> omega

set_option maxHeartbeats 1000000 in
set_option maxRecDepth 100000 in
theorem findBottom_any (w : World) (b n : Nat) (R : Nat → Nat → Bool) (h1 : 1 ≤ n) (hn : n ≤ 8) (hl : LatM w b 0 n R) :
    Calls Try.prog 53 #[.pointer (some ⟨b, 0, none⟩)] w fun e w' => e = .returned (.int .i64 (fbK R (n - 1) : Nat)) ∧ w' = w := by
  have hc := hl.c0
  go_enter Try.func53, Try.ntmps53
  go_wp2_with fail
  go_loop [3, 4] (fun d e => ∃ m : Nat, m + 1 ≤ n ∧ e = .int .i64 ((m : Int) + 1) ∧ d = .int .i64 (fbK R m : Nat)) (fun _ e => n - (intOf e).toNat)
  case atStart => exact ⟨0, h1, rfl, rfl⟩
  case round =>
    obtain ⟨m, hm, rfl, rfl⟩ := hrel
    have HL := hide (fbK_le R m)
    have HY := hide (fun h : R (m + 1) (fbK R m) = true => show fbK R (m + 1) = m + 1 by simp only [fbK]; rw [if_pos h])
    have HN := hide (fun h : R (m + 1) (fbK R m) = false => show fbK R (m + 1) = fbK R m by simp only [fbK]; rw [if_neg (by simp [h])])
    generalize hq0 : fbK R m = q at *
    have HQ := hide hq0.symm
    clear hq0
    by_cases hlt : m + 1 < n
    · have hq : q < n := by have := unhide HL; omega
      cases hr : R (m + 1) q
      · go_wp2_with fail
        refine (isBelow_any _ _ _ _ (m + 1) _ _ hn hl hlt hq).mono ?_
        rintro e w' ⟨rfl, rfl⟩
        rw [hr]
        go_wp2_with fail
        go_round
        case rel => exact ⟨m + 1, by omega, by go_num, by rw [unhide HN hr]⟩
        case measure => simp [intOf]; omega
      · go_wp2_with fail
        refine (isBelow_any _ _ _ _ (m + 1) _ _ hn hl hlt hq).mono ?_
        rintro e w' ⟨rfl, rfl⟩
        rw [hr]
        go_wp2_with fail
        go_round
        case rel => exact ⟨m + 1, by omega, by go_num, by rw [unhide HY hr]; rfl⟩
        case measure => simp [intOf]; omega
    · have em : m = n - 1 := by omega
      go_wp2_with fail
      go_ret
      exact ⟨by rw [← em]; exact congrArg (fun x : Nat => Ending.returned (.int .i64 (x : Int))) (unhide HQ), rfl⟩

set_option maxHeartbeats 400000 in
set_option maxRecDepth 100000 in
theorem join_any (w : World) (b o n i j : Nat) (R : Nat → Nat → Bool) (x : Int) (hn : n ≤ 8) (hl : LatM w b o n R) (hx : w.cell? ⟨b, o + 67 + i * 8 + j, none⟩ = some (.int .i64 x)) (hi : i < n) (hj : j < n) :
    Calls Try.prog 37 #[.pointer (some ⟨b, o, none⟩), .int .i64 (i : Int), .int .i64 (j : Int)] w fun e w' => e = .returned (.int .i64 x) ∧ w' = w := by
  have hc := hl.cnt
  have q1 : decide (0 ≤ (i : Int) ∧ (i : Int) < (n : Int)) = true := by simp; omega
  have q2 : decide (0 ≤ (j : Int) ∧ (j : Int) < (n : Int)) = true := by simp; omega
  have hi' : (i : Int) < 8 := by omega
  have hj' : (j : Int) < 8 := by omega
  go_enter Try.func37, Try.ntmps37
  go_wp2_with (go_at_call 36; refine (has_any _ _ _ _ _ hc).mono ?_; rintro e w' ⟨rfl, rfl⟩)
  go_ret
  exact ⟨rfl, rfl⟩

end Go.Proofs.Ytfcflnnleadpkaa
