import Derived.Test.YtfcflnnleadpkabGgJ
import Derived.Test.YtfcflnnleadpkabTnJ
import Derived.Test.YtfcflnnleadpkabGbJ
import Derived.Test.YtfcflnnleadpkabVmJ
import Derived.OwnWalk
import Derived.Deep.MidRow
import Derived.Test.YtfcflnnleadpkabUeJ
import Derived.Deep.LoopGhost
import Derived.Deep.QuietTactic
import Derived.BigQuiet
import Derived.Deep.RegionWith
import Derived.Laws.OwnMore
import Derived.Test.YtfcflnnleadpkabFaJ
namespace Go.Proofs.Ytfcflnnleadpkab
open Go.RowKit

/-- What 'readProgram' answers. -/
def RpAns (s : ByteArray) (N : Nat) (e : Ending) : Prop := ∃ F : Nat → Value, e = .returned (.agg (rowF F 912)) ∧ (∀ k, (F k).oneCell' = true) ∧
  ((prE s N ≠ 0 ∧ F 0 = .int .i64 (prE s N) ∧ F 1 = .int .i64 (prP s N)) ∨ (prE s N = 0 ∧ ∃ a n c, F = prgF 0 0 s N (prNv s N) (rdFin s N).1 (rdFin s N).2.1 (rdFin s N).2.2.T (.slice a n c)))
theorem rp_any (w : World) (s : ByteArray) (N : Nat) : Calls Try.prog 28 #[.string s, .int .i64 (N : Int)] w fun e w' => RpAns s N e ∧ Below w.heap.size w w' := by
  by_cases hs : s.size ≤ 300
  · refine (rp_ok w s N hs).mono ?_
    rintro e w' ⟨⟨a, n, c, rfl⟩, hb⟩
    refine ⟨⟨_, rfl, prgF_one rfl, ?_⟩, hb⟩
    obtain ⟨h1, h2⟩ := rdFin_ok (N := N) hs
    by_cases hE : prE s N = 0
    · right
      obtain ⟨_, j, h3⟩ := h2 hE
      exact ⟨hE, a, n, c, by rw [h3.e, h3.p]; rfl⟩
    · left
      obtain ⟨q1, q2⟩ := h1 hE
      exact ⟨hE, by rw [← q1]; rfl, by rw [← q2]; rfl⟩
  · refine (rp_long w s N (by omega)).mono ?_
    rintro e w' ⟨rfl, hb⟩
    have hE : prE s N = 1 := by unfold prE; rw [if_pos (by omega)]
    have hP : prP s N = 0 := by unfold prP; rw [if_pos (by omega)]
    exact ⟨⟨_, rfl, prgF_one rfl, Or.inl ⟨by rw [hE]; omega, by rw [hE]; rfl, by rw [hP]; rfl⟩⟩, hb⟩

theorem flw_laid {e p : Int} {L P F : Nat → Value} {V X T : Nat → Nat} {ra : Bool} :
    ((flwC e p L P V X T ra).toList.take (134 + 0) ++ (rowF F 912).toList ++ (flwC e p L P V X T ra).toList.drop (134 + 0 + (rowF F 912).toList.length)).toArray = flwC e p L F V X T ra := by
  have hl : (rowF F 912).toList.length = 912 := by simp [rowF]
  have hl2 : (flwC e p L P V X T ra).toList.length = 1063 := by simp [flwC, rowF]
  rw [hl]
  apply Array.ext_getElem?
  intro k
  rw [List.getElem?_toArray]
  have g1 : ∀ j, (flwC e p L P V X T ra).toList[j]? = if j < 1063 then some (flwF e p L P V X T ra j) else none := by
    intro j
    rw [Array.getElem?_toList]
    by_cases h : j < 1063
    · rw [if_pos h]; exact rowF_get _ _ _ h
    · rw [if_neg h, Array.getElem?_eq_none]; rw [flwC_size]; omega
  have g2 : (rowF F 912).toList[k - 134]? = if k - 134 < 912 then some (F (k - 134)) else none := by
    rw [Array.getElem?_toList]
    by_cases h : k - 134 < 912
    · rw [if_pos h]; exact rowF_get _ _ _ h
    · rw [if_neg h, Array.getElem?_eq_none]; rw [rowF_size]; omega
  have g3 : (flwC e p L F V X T ra)[k]? = if k < 1063 then some (flwF e p L F V X T ra k) else none := by
    by_cases h : k < 1063
    · rw [if_pos h]; exact rowF_get _ _ _ h
    · rw [if_neg h, Array.getElem?_eq_none]; rw [flwC_size]; omega
  rw [g3, List.append_assoc]
  have ht : ((flwC e p L P V X T ra).toList.take (134 + 0)).length = 134 := by rw [List.length_take, hl2]; rfl
  by_cases h1 : k < 134
  · rw [List.getElem?_append_left (by rw [ht]; exact h1), List.getElem?_take, if_pos (by omega), g1, if_pos (by omega), if_pos (by omega)]
    refine congrArg some ?_
    unfold flwF
    repeat' split
    all_goals first | rfl | omega
  · rw [List.getElem?_append_right (by rw [ht]; omega), ht]
    by_cases h2 : k < 1046
    · rw [List.getElem?_append_left (by rw [hl]; omega), g2, if_pos (by omega), if_pos (by omega)]
      refine congrArg some ?_
      unfold flwF
      have a0 : ¬ k = 0 := by omega
      have a1 : ¬ k = 1 := by omega
      simp only [a0, a1, h1, h2, if_false, if_true]
    · rw [List.getElem?_append_right (by rw [hl]; omega), hl, List.getElem?_drop, g1, show 134 + 0 + 912 + (k - 134 - 912) = k by omega]
      by_cases h3 : k < 1063
      · rw [if_pos h3, if_pos h3]
        refine congrArg some ?_
        unfold flwF
        have a0 : ¬ k = 0 := by omega
        have a1 : ¬ k = 1 := by omega
        simp only [a0, a1, h1, h2, if_false]
      · rw [if_neg h3, if_neg h3]
theorem store_prog (w : World) (g : Nat) {e p : Int} {L P F : Nat → Value} {V X T : Nat → Nat} {ra : Bool} (hF : ∀ k, (F k).oneCell' = true) (hg : w.heap[g]? = some (.cells (flwC e p L P V X T ra) 68 (0, 0))) :
    Sem.run Try.prog (storeCells ⟨g, 134, none⟩ (rowF F 912).toList) w = .ok () (w.setRow g (flwC e p L F V X T ra)) := by
  have h := run_storeCells_at Try.prog g 134 68 (rowF F 912).toList 0 _ w hg (by rw [flwC_size]; simp [rowF]) (fun v hv => by
    simp [rowF] at hv
    obtain ⟨k, _, rfl⟩ := hv
    exact hF k)
  rw [flw_laid] at h
  exact h

theorem flw_put {w : World} {g : Nat} {e p e' p' : Int} {L P : Nat → Value} {V X T : Nat → Nat} {ra : Bool} (hg : w.heap[g]? = some (.cells (flwC e p L P V X T ra) 68 (0, 0))) :
    ((w.setCell ⟨g, 0, none⟩ (.int .i64 e')).setCell ⟨g, 1, none⟩ (.int .i64 p')).heap[g]? = some (.cells (flwC e' p' L P V X T ra) 68 (0, 0)) := by
  rw [setCell_eq_setRow w g _ _ _ _ _ hg, flw_set0, setCell_eq_setRow _ g _ _ _ _ _ (setRow_heap w g _ _ _ _ hg), flw_set1, setRow_setRow]
  exact setRow_heap w g _ _ _ _ hg
theorem set2_other {w : World} {g k : Nat} {x y : Value} (h : k ≠ g) : ((w.setCell ⟨g, 0, none⟩ x).setCell ⟨g, 1, none⟩ y).heap[k]? = w.heap[k]? :=
  (Below.heap_setCell _ _ _ k h).trans (Below.heap_setCell w _ _ k h)

/-- What 'readFlow' answers where the order is one. -/
def RfOk (o s : ByteArray) (n : Nat) (C : Array Value) : Prop := ∃ a p : Int, CkPost o s a p n ∧ C.size = 1063 ∧ C.all (·.oneCell') = true ∧ C[0]? = some (.int .i64 a) ∧ C[1]? = some (.int .i64 p) ∧
  (a = 0 → p = 0 ∧ prE s n = 0 ∧ ∃ v st, C = flC (mkD o s n 0 v) st ∧ (∀ k, k < prNv s n → st.V k = (ckL o s n).V k) ∧ (∀ k, k < (prPs s n).length → st.X k = (ckL o s n).X k) ∧ ∀ k, k < (prPs s n).length → st.T k = (ckL o s n).T k)

set_option maxHeartbeats 4000000 in
set_option maxRecDepth 200000 in
theorem rf_good (w : World) (o s : ByteArray) (n : Nat) (hR : ReadPost o 0 0 n) :
    Calls Try.prog 17 #[.string o, .string s] w fun e w' => (∃ C, e = .returned (.agg C) ∧ RfOk o s n C) ∧ Below w.heap.size w w' := by
  have hz := zero_flw
  have z0 := flwC_size 0 0 L0 P0 noW noW noW false
  have HRP := hide hR
  clear hR
  go_enter Try.func17, Try.ntmps17
  go_wp2_with fail
  refine (readLevels_any _ _).mono ?_
  rintro e w1 ⟨⟨a, p, n', hr, hn, rfl⟩, hb⟩
  obtain ⟨rfl, rfl, rfl⟩ := ReadPost_uniq (unhide HRP) hr
  have hl := levF_c o n (ReadPost_p0 hr)
  have z1 := levA_size o 0 0 n
  have z2 := flwC_size 0 0 (levF o 0 0 n) P0 noW noW noW false
  have hfo := flw_lay o 0 0 n
  have c2 := flw_ge (e := 0) (p := 0) (L := levF o 0 0 n) (P := P0) (V := noW) (X := noW) (T := noW) (ra := false) 2 (.int .i64 0) hl.1
  have c3 := flw_ge (e := 0) (p := 0) (L := levF o 0 0 n) (P := P0) (V := noW) (X := noW) (T := noW) (ra := false) 3 (.int .i64 0) hl.2.1
  have c4 := flw_ge (e := 0) (p := 0) (L := levF o 0 0 n) (P := P0) (V := noW) (X := noW) (T := noW) (ra := false) 4 (.int .i64 (n : Int)) hl.2.2
  have s0 := flw_set0 (e := 0) (p := 0) (e' := 0) (L := levF o 0 0 n) (P := P0) (V := noW) (X := noW) (T := noW) (ra := false)
  have s1 := flw_set1 (e := 0) (p := 0) (p' := 0) (L := levF o 0 0 n) (P := P0) (V := noW) (X := noW) (T := noW) (ra := false)
  have c0 := flw_ge (e := 0) (p := 0) (L := levF o 0 0 n) (P := P0) (V := noW) (X := noW) (T := noW) (ra := false) 0 (.int .i64 0) rfl
  have hst := store_arr size_flw (w1.alloc (.cells (flwC 0 0 L0 P0 noW noW noW false) 68)) w1.heap.size _ (flwC 0 0 (levF o 0 0 n) P0 noW noW noW false) (flwC_size _ _ _ _ _ _ _ _) (flwC_size _ _ _ _ _ _ _ _) (flwC_all (levF_one _ _ _ _) (prgF_one rfl)) (heap_alloc_last w1 _)
  rw [World.setRow_alloc_new] at hst
  have hsz : w.heap.size < w1.heap.size := by have := hb.size; simp at this; omega
  have HG0 := hide (show (w1.alloc (.cells (flwC 0 0 (levF o 0 0 n) P0 noW noW noW false) 68)).heap[w.heap.size]? = some (.cells (flwC 0 0 L0 P0 noW noW noW false) 68) from
    (heap_alloc_old _ _ hsz).trans ((hb.block _ (by simp)).trans (heap_alloc_last w _)))
  have HG1 := hide (heap_alloc_last w1 (.cells (flwC 0 0 (levF o 0 0 n) P0 noW noW noW false) 68))
  have HB := hide (show Below w.heap.size w (w1.alloc (.cells (flwC 0 0 (levF o 0 0 n) P0 noW noW noW false) 68)) from (((Below.refl _ _).alloc (Nat.le_refl _) _).trans (hb.mono (by simp))).trans ((Below.refl _ _).alloc (by omega) _))
  clear hr hl hb
  go_wp2_with fail
  refine (rp_any _ _ _).mono ?_
  rintro e w2 ⟨⟨F, rfl, hF1, hans⟩, hb2⟩
  have HANS := hide hans
  clear hans
  have g2 := (hb2.block w1.heap.size (by simp)).trans (unhide HG1)
  have g20 := (hb2.block w.heap.size (by simp; omega)).trans (unhide HG0)
  have HB2 := hide ((unhide HB).trans (hb2.mono (by simp; omega)))
  have hst3 := store_prog w2 w1.heap.size (F := F) hF1 g2
  have z9 : (rowF F 912).size = 912 := rowF_size _ _
  have HW3 := hide (setRow_heap w2 w1.heap.size _ (flwC 0 0 (levF o 0 0 n) F noW noW noW false) _ _ g2)
  have HW30 := hide ((setRow_other w2 w1.heap.size w.heap.size (flwC 0 0 (levF o 0 0 n) F noW noW noW false) (by omega)).trans g20)
  have HB3 := hide (below_setRow (unhide HB2) (show w.heap.size ≤ w1.heap.size by omega) (flwC 0 0 (levF o 0 0 n) F noW noW noW false))
  clear hb2 g2 g20
  have q134 : (w2.setRow w1.heap.size (flwC 0 0 (levF o 0 0 n) F noW noW noW false)).cell? ⟨w1.heap.size, 134, none⟩ = some (F 0) := (rowF_cell (unhide HW3) (by omega)).trans rfl
  have q135 : (w2.setRow w1.heap.size (flwC 0 0 (levF o 0 0 n) F noW noW noW false)).cell? ⟨w1.heap.size, 135, none⟩ = some (F 1) := (rowF_cell (unhide HW3) (by omega)).trans rfl
  have q0 : (w2.setRow w1.heap.size (flwC 0 0 (levF o 0 0 n) F noW noW noW false)).cell? ⟨w1.heap.size, 0, none⟩ = some (.int .i64 0) := (rowF_cell (unhide HW3) (by omega)).trans rfl
  have q1 : (w2.setRow w1.heap.size (flwC 0 0 (levF o 0 0 n) F noW noW noW false)).cell? ⟨w1.heap.size, 1, none⟩ = some (.int .i64 0) := (rowF_cell (unhide HW3) (by omega)).trans rfl
  have y0 := frozen_of_row (w2.setRow w1.heap.size (flwC 0 0 (levF o 0 0 n) F noW noW noW false)) w1.heap.size 0 _ _ (unhide HW3)
  have y1 := frozen_of_row (w2.setRow w1.heap.size (flwC 0 0 (levF o 0 0 n) F noW noW noW false)) w1.heap.size 1 _ _ (unhide HW3)
  have HRP2 := unhide HRP
  rcases unhide HANS with ⟨hE, hF0, hFp⟩ | ⟨hE, va, vn, vc, rfl⟩
  · rw [hF0] at q134
    rw [hFp] at q135
    have he' : (prE s n == 0) = false := by simpa using hE
    have HW4 := hide (flw_put (e' := prE s n) (p' := prP s n) (unhide HW3))
    have hw40 := (set2_other (x := .int .i64 (prE s n)) (y := .int .i64 (prP s n)) (show w.heap.size ≠ w1.heap.size by omega)).trans (unhide HW30)
    have hst4 := store_arr size_flw _ w.heap.size _ (flwC (prE s n) (prP s n) (levF o 0 0 n) F noW noW noW false) (flwC_size _ _ _ _ _ _ _ _) (flwC_size _ _ _ _ _ _ _ _) (flwC_all (levF_one _ _ _ _) hF1) hw40
    have z4 := flwC_size (prE s n) (prP s n) (levF o 0 0 n) F noW noW noW false
    have HW40 := hide hw40
    have HB4 := hide (((unhide HB3).setCell (p := ⟨w1.heap.size, 0, none⟩) (show w.heap.size ≤ w1.heap.size by omega) (.int .i64 (prE s n))).setCell (p := ⟨w1.heap.size, 1, none⟩) (show w.heap.size ≤ w1.heap.size by omega) (.int .i64 (prP s n)))
    have HRF := hide (show RfOk o s n (flwC (prE s n) (prP s n) (levF o 0 0 n) F noW noW noW false) from ⟨prE s n, prP s n, Or.inr (Or.inl ⟨unhide HRP, hE, rfl, rfl⟩), flwC_size _ _ _ _ _ _ _ _, flwC_all (levF_one _ _ _ _) hF1, flwC_g 0 (by omega), flwC_g 1 (by omega), fun h => absurd h hE⟩)
    clear hw40 hF0 hFp hE
    go_wp2_with (refine wpList_load_row rfl 68 _ rfl w1.heap.size rfl 68 _ (0, 0) _ (unhide HW4) Try.underlying68 rfl (by rw [flwC_size]; exact size_flw) ?_)
    refine bodyPost_ret (v := .agg (flwC (prE s n) (prP s n) (levF o 0 0 n) F noW noW noW false)) (ret_flw Try.results17 _ _ w.heap.size _ (flwC_size _ _ _ _ _ _ _ _) rfl (setRow_heap _ _ _ _ _ _ (unhide HW40))) rfl ⟨⟨_, rfl, unhide HRF⟩, ?_⟩
    exact below_setRow (unhide HB4) (Nat.le_refl _) _
  · have K := known HRP2 hE
    obtain ⟨G, I⟩ := mkD_ok (b := w1.heap.size) (v := .slice va vn vc) HRP2 hE
    have hEnv := mkD_env (o := o) (b := w1.heap.size) (v := .slice va vn vc) K.sz hE
    have q134' : (w2.setRow w1.heap.size (flwC 0 0 (levF o 0 0 n) (prgF 0 0 s n (prNv s n) (rdFin s n).1 (rdFin s n).2.1 (rdFin s n).2.2.T (.slice va vn vc)) noW noW noW false)).cell? ⟨w1.heap.size, 134, none⟩ = some (.int .i64 0) := q134
    have q135' : (w2.setRow w1.heap.size (flwC 0 0 (levF o 0 0 n) (prgF 0 0 s n (prNv s n) (rdFin s n).1 (rdFin s n).2.1 (rdFin s n).2.2.T (.slice va vn vc)) noW noW noW false)).cell? ⟨w1.heap.size, 135, none⟩ = some (.int .i64 0) := q135
    clear q134 q135
    have HG := hide G
    have HI := hide I
    have HK := hide K
    have HEnv := hide hEnv
    have HE := hide hE
    clear G I K hEnv hE
    generalize hFF : prgF 0 0 s n (prNv s n) (rdFin s n).1 (rdFin s n).2.1 (rdFin s n).2.2.T (.slice va vn vc) = F at *
    have HFF := hide hFF
    clear hFF
    have HW4 := hide (flw_put (e' := 0) (p' := 0) (unhide HW3))
    have HW40 := hide ((set2_other (x := .int .i64 0) (y := .int .i64 0) (show w.heap.size ≠ w1.heap.size by omega)).trans (unhide HW30))
    have HB4 := hide (((unhide HB3).setCell (p := ⟨w1.heap.size, 0, none⟩) (show w.heap.size ≤ w1.heap.size by omega) (.int .i64 0)).setCell (p := ⟨w1.heap.size, 1, none⟩) (show w.heap.size ≤ w1.heap.size by omega) (.int .i64 0))
    have HFL := hide (show Fl (mkD o s n w1.heap.size (.slice va vn vc)) (((w2.setRow w1.heap.size (flwC 0 0 (levF o 0 0 n) F noW noW noW false)).setCell ⟨w1.heap.size, 0, none⟩ (.int .i64 0)).setCell ⟨w1.heap.size, 1, none⟩ (.int .i64 0)) ⟨noW, noW, noW, false, -1⟩ from by
      have h9 := unhide HW4
      have e1 : levF o 0 0 n = latF 0 0 n (cl o n) (jTo n (cl o n) n 0) (fbK (cl o n) (n - 1) : Nat) := by unfold levF; rw [if_pos rfl]
      have e2 : flwC 0 0 (levF o 0 0 n) F noW noW noW false = flC (mkD o s n w1.heap.size (.slice va vn vc)) ⟨noW, noW, noW, false, -1⟩ := by rw [e1, ← unhide HFF]; rfl
      unfold Fl
      rw [← e2]
      exact h9)
    go_wp2_with fail
    refine (fFind (unhide HG) (unhide HFL)).mono ?_
    rintro e w5 ⟨rfl, ⟨st', hf5, hl5, hra⟩, hk5⟩
    have HF5 := hide hf5
    have hsz5 : w1.heap.size < (((w2.setRow w1.heap.size (flwC 0 0 (levF o 0 0 n) F noW noW noW false)).setCell ⟨w1.heap.size, 0, none⟩ (.int .i64 0)).setCell ⟨w1.heap.size, 1, none⟩ (.int .i64 0)).heap.size := (Array.getElem?_eq_some_iff.1 (unhide HW4)).1
    have g50 := (hk5.block w.heap.size (by omega) (show w.heap.size ≠ w1.heap.size by omega)).trans (unhide HW40)
    have HB5 := hide (show Below w.heap.size w w5 from (unhide HB4).trans ⟨hk5.os, hk5.tape, hk5.output, hk5.size, fun k hk => hk5.block k (by omega) (show k ≠ w1.heap.size by omega)⟩)
    have hall : (flC (mkD o s n w1.heap.size (.slice va vn vc)) st').all (·.oneCell') = true := rowF_all (flwF_one (latF_one _ _ _ _ _ _) (prgF_one rfl))
    have hst5 := store_arr size_flw w5 w.heap.size _ (flC (mkD o s n w1.heap.size (.slice va vn vc)) st') (flwC_size _ _ _ _ _ _ _ _) (flC_size _ _) hall g50
    have z5 := flC_size (mkD o s n w1.heap.size (.slice va vn vc)) st'
    have HG50 := hide g50
    have HRF := hide (show RfOk o s n (flC (mkD o s n w1.heap.size (.slice va vn vc)) st') from by
      have K := unhide HK
      have L : LInv (pE (cl o n) s n) (s.size + 1) st' := by rw [← unhide HEnv]; exact hl5
      obtain ⟨u1, u2, u3, u4⟩ := LInv.same (E := pE (cl o n) s n) K.A K.Q (unhide HI) L hra K.low
      have u5 : st'.bad = ckB o s n := u4
      refine ⟨eB st'.bad, pB st'.bad, ?_, flC_size _ _, hall, rowF_get _ _ _ (by omega), rowF_get _ _ _ (by omega), fun h0 => ⟨?_, unhide HE, _, st', rfl, u1, u2, u3⟩⟩
      · by_cases hb : st'.bad < 0
        · have e1 : eB st'.bad = 0 := by unfold eB; rw [if_pos hb]
          have e2 : pB st'.bad = 0 := by unfold pB; rw [if_pos hb]
          rw [e1, e2]
          exact Or.inr (Or.inr (Or.inr ⟨unhide HRP, unhide HE, by rw [← u5]; exact hb, rfl, rfl⟩))
        · have e1 : eB st'.bad = 6 := by unfold eB; rw [if_neg hb]
          have e2 : pB st'.bad = st'.bad := by unfold pB; rw [if_neg hb]
          rw [e1, e2]
          exact Or.inr (Or.inr (Or.inl ⟨unhide HRP, unhide HE, by rw [← u5]; omega, rfl, u5⟩))
      · unfold eB at h0
        unfold pB
        split at h0
        · rename_i hb; rw [if_pos hb]
        · omega)
    clear hf5 hl5 hra hk5 g50 hall hsz5
    go_wp2_with (refine wpList_load_row rfl 68 _ rfl w1.heap.size rfl 68 _ (0, 0) _ (unhide HF5) Try.underlying68 rfl (by rw [flC_size]; exact size_flw) ?_)
    refine bodyPost_ret (v := .agg (flC (mkD o s n w1.heap.size (.slice va vn vc)) st')) (ret_flw Try.results17 _ _ w.heap.size _ (flC_size _ _) rfl (setRow_heap _ _ _ _ _ _ (unhide HG50))) rfl ⟨⟨_, rfl, unhide HRF⟩, ?_⟩
    exact below_setRow (unhide HB5) (Nat.le_refl _) _

end Go.Proofs.Ytfcflnnleadpkab

namespace Go.Proofs.Ytfcflnnleadpkab
open Go.RowKit

/-- What 'readFlow' answers. -/
def RfAns (o s : ByteArray) (e : Ending) : Prop := ∃ C, e = .returned (.agg C) ∧ ∃ (a p : Int) (n : Nat), CkPost o s a p n ∧ C.size = 1063 ∧ C.all (·.oneCell') = true ∧ C[0]? = some (.int .i64 a) ∧ C[1]? = some (.int .i64 p) ∧
  (a = 0 → p = 0 ∧ ReadPost o 0 0 n ∧ prE s n = 0 ∧ ∃ v st, C = flC (mkD o s n 0 v) st ∧ (∀ k, k < prNv s n → st.V k = (ckL o s n).V k) ∧ (∀ k, k < (prPs s n).length → st.X k = (ckL o s n).X k) ∧ ∀ k, k < (prPs s n).length → st.T k = (ckL o s n).T k)
theorem CkPost_rd {o s : ByteArray} {a p : Int} {n : Nat} (h : CkPost o s a p n) (ha : a = 0) : ReadPost o 0 0 n := by
  rcases h with ⟨_, h2⟩ | ⟨h1, _⟩ | ⟨h1, _⟩ | ⟨h1, _⟩
  · exact absurd ha h2
  · exact h1
  · exact h1
  · exact h1
theorem rf_any (w : World) (o s : ByteArray) : Calls Try.prog 17 #[.string o, .string s] w fun e w' => RfAns o s e ∧ Below w.heap.size w w' := by
  by_cases h : ∃ n, ReadPost o 0 0 n
  · obtain ⟨n, hn⟩ := h
    refine (rf_good w o s n hn).mono ?_
    rintro e w' ⟨⟨C, rfl, a, p, h1, h2, h3, h4, h5, h6⟩, hb⟩
    refine ⟨⟨C, rfl, a, p, n, h1, h2, h3, h4, h5, fun ha => ?_⟩, hb⟩
    obtain ⟨q1, q2, q3⟩ := h6 ha
    exact ⟨q1, hn, q2, q3⟩
  · refine (rf_order w o s (fun a p n hr ha => h ⟨n, ?_⟩)).mono ?_
    · have hp := ReadPost_p0 hr ha
      rw [ha, hp] at hr
      exact hr
    · rintro e w' ⟨⟨a, p, n, hr, rfl⟩, hb⟩
      have ha : a ≠ 0 := fun ha => h ⟨n, by
        have hp := ReadPost_p0 hr ha
        rw [ha, hp] at hr
        exact hr⟩
      exact ⟨⟨_, rfl, a, p, n, Or.inl ⟨hr, ha⟩, flwC_size _ _ _ _ _ _ _ _, flwC_all (levF_one _ _ _ _) (prgF_one rfl), flwC_g 0 (by omega), flwC_g 1 (by omega), fun h0 => absurd h0 ha⟩, hb⟩
theorem get_of? {C : Array Value} {k : Nat} {x : Value} (h : C[k]? = some x) (hk : k < C.size) : C[k] = x := by
  rw [Array.getElem?_eq_getElem hk] at h
  exact Option.some.inj h

set_option maxHeartbeats 2000000 in
set_option maxRecDepth 200000 in
theorem hushCheck_ok : HushCheck := by
  intro w o s
  have hz := zero_flw
  have z0 := flwC_size 0 0 L0 P0 noW noW noW false
  go_enter Try.func12, Try.ntmps12
  go_wp2_with fail
  refine (rf_any _ _ _).mono ?_
  rintro e w1 ⟨⟨C, rfl, a, p, n, hck, hsz, hall, h0, h1, _⟩, hb⟩
  have HCK := hide hck
  have hst := store_arr size_flw (w1.alloc (.cells (flwC 0 0 L0 P0 noW noW noW false) 68)) w1.heap.size _ C (flwC_size _ _ _ _ _ _ _ _) hsz hall (heap_alloc_last w1 _)
  rw [World.setRow_alloc_new] at hst
  have c0 := get_of? h0
  have c1 := get_of? h1
  clear hck hall
  go_wp2_with fail
  go_quiet (fail)
  go_wp2_with fail
  go_ret2
  exact ⟨⟨a, p, n, unhide HCK, rfl⟩, below_drewN' (hb.trans ((Below.refl _ _).alloc hb.size _)) _⟩


end Go.Proofs.Ytfcflnnleadpkab

namespace Go.Proofs.Ytfcflnnleadpkab
open Go.RowKit

/-- What the program's own Run must come to, its events in memory of their own. -/
def RunOwn (o s : ByteArray) (inp : Nat → List Nat) (fuel : Int) (B : Nat) (e : Ending) (w' : World) : Prop :=
  ∃ (a p : Int) (n : Nat), CkPost o s a p n ∧ ((a ≠ 0 ∧ e = .returned (.tuple #[.slice none 0 0, .int .i64 0, .int .i64 a])) ∨
    (a = 0 ∧ p = 0 ∧ ¬ (0 ≤ fuel ∧ fuel ≤ 10000) ∧ e = .returned (.tuple #[.slice none 0 0, .int .i64 0, .int .i64 7])) ∨
    (a = 0 ∧ p = 0 ∧ ∃ (f : Nat) (v : Value), fuel = (f : Int) ∧ f ≤ 10000 ∧ w'.ownsRow B 35 2 v (rnR o s n inp f).1.out.length (evC (rnR o s n inp f).1.out) ∧ e = .returned (.tuple #[v, .int .i64 ((rnR o s n inp f).2 : Int), .int .i64 0])))
def HushRunO : Prop := ∀ (w : World) (o s : ByteArray) (iv : Value) (inp : Nat → List Nat) (fuel : Int), (∀ n, n ≤ 8 → InpR w iv n inp) →
  Calls Try.prog 5 #[.string o, .string s, iv, .int .i64 fuel] w fun e w' => RunOwn o s inp fuel w.heap.size e w' ∧ Below w.heap.size w w'

theorem HushRunO.run (H : HushRunO) : HushRun := by
  intro w o s iv inp fuel hI
  refine (H w o s iv inp fuel hI).mono ?_
  rintro e w' ⟨⟨a, p, n, hc, hans⟩, hb⟩
  refine ⟨⟨a, p, n, hc, ?_⟩, hb⟩
  rcases hans with h | h | ⟨ha, hp, f, v, hf, hf2, hown, he⟩
  · exact Or.inl h
  · exact Or.inr (Or.inl h)
  · exact Or.inr (Or.inr ⟨ha, hp, f, v, hf, hf2, SlE.own (by rw [evC_twC] at hown; exact hown), he⟩)

/-- A part of a row, by its index, is loaded whole. -/
theorem load_part {P : Program} {ops : Array Oper} {rest : List Oper} {o : Oper} {a : Act} {w : World} {Q : Exit → Act → World → Prop} (hgd : o.guard = none) (ty : TypeId) (x : Operand) (ho : o.op = .load ty x) {g off n : Nat} {f : Nat → Value} {d : TypeDesc}
    (hx : a.eval x = .pointer (some ⟨g, off, none⟩)) (hc : ∀ j, j < n → w.cell? ⟨g, off + j, none⟩ = some (f j)) (hu : P.underlying ty = some d) (hd : d.isRow = true) (hi : (P.info? ty).map (·.size) = some n)
    (h : wpList P ops Q rest (a.put o.dst (.agg (rowF f n))) w) : wpList P ops Q (o :: rest) a w := by
  refine wpList_load_mid hgd ty x ho g off hx ((List.range n).map f) d (fun j v hv => ?_) hu hd (by simpa using hi) h
  by_cases hj : j < n
  · rw [hc j hj, ← hv]; simp [hj]
  · simp [hj] at hv

theorem flC_prog {D : FD} {w : World} {st : WS} (h : Fl D w st) (j : Nat) (hj : j < 912) : w.cell? ⟨D.b, 134 + j, none⟩ = some (pgF D j) := by
  rw [rowF_cell h (by omega)]
  unfold flwF
  rw [if_neg (by omega), if_neg (by omega), if_neg (by omega), if_pos (by omega), show 134 + j - 134 = j by omega]
  rfl

set_option maxHeartbeats 1000000 in
set_option maxRecDepth 100000 in
theorem pWhole {G : RD} {F : Nat} {w : World} {ov : Value} {st : RS} (K : QK G F) (h : PAt G w ov st 0) (hi : RunI G.D.n st) (hf : st.fuel ≤ 10000) :
    Calls Try.prog 19 #[.pointer (some ⟨G.b, 0, none⟩)] w (PrAt G 0 (exD G F 10000 (dE G.D).main 0 st)) := by
  have HH := hide h
  have HI := hide hi
  have p0 := h.ps (j := 0) (by omega)
  rw [K.K.m0] at p0
  simp only [Nat.add_zero] at p0
  obtain ⟨j0, hj0⟩ := K.K.Q.main
  have HJ := hide (show wfS (bt G.D.s) G.D.nv G.D.n G.D.np F (dE G.D).main = (j0, false) from hj0)
  have HT := hide K.K.tm
  obtain ⟨mn, HM⟩ : ∃ mn, Hid ((dE G.D).main = mn) := ⟨_, rfl⟩
  rw [unhide HM] at p0 HJ HT
  rw [unhide HM]
  clear h hi hj0
  go_enter Try.func19, Try.ntmps19
  go_wp2_with fail
  refine (pStmt K 10000 w ov st 0 mn j0 F (unhide HH) (unhide HI) (unhide HJ) (unhide HT) (Nat.le_refl _) hf (by omega)).mono ?_
  rintro e w2 ⟨rfl, ov2, hr2⟩
  have HR2 := hide hr2
  clear hr2
  go_wp2_with fail
  go_ret
  exact ⟨rfl, ov2, unhide HR2⟩

theorem ownsRow_empty {w : World} {B g : Nat} {e : TypeId} (hg : w.heap[g]? = some (.cells #[] e (0, 0))) (hb : B ≤ g) : w.ownsRow B e 2 (.slice (some ⟨g, 0, none⟩) 0 0) 0 [] :=
  ⟨rfl, Or.inr ⟨g, 0, #[], rfl, hb, hg, Nat.le_refl _, Nat.zero_le _, rfl, rfl⟩⟩

set_option maxHeartbeats 2000000 in
set_option maxRecDepth 200000 in
theorem hushRunO_ok : HushRunO := by
  intro w o s iv inp fuel hI
  obtain ⟨ia, il, ic, rfl, _⟩ := hI 0 (by omega)
  have HIN := hide hI
  clear hI
  have hz := zero_flw
  have z0 := flwC_size 0 0 L0 P0 noW noW noW false
  go_enter Try.func5, Try.ntmps5
  go_wp2_with fail
  refine (rf_any _ _ _).mono ?_
  rintro e w1 ⟨⟨C, rfl, a, p, n, hck, hsz, hall, h0, h1, hok⟩, hb⟩
  have HCK := hide hck
  have hst := store_arr size_flw (w1.alloc (.cells (flwC 0 0 L0 P0 noW noW noW false) 68)) w1.heap.size _ C (flwC_size _ _ _ _ _ _ _ _) hsz hall (heap_alloc_last w1 _)
  rw [World.setRow_alloc_new] at hst
  have c0 := get_of? h0
  have HOK := hide hok
  have HB := hide hb
  have HALL := hide hall
  clear hck hall hok hb h1
  by_cases ha : a = 0
  · subst ha
    obtain ⟨hp, hR, hE, v, st, hC, u1, u2, u3⟩ := unhide HOK rfl
    have HP := hide hp
    have HFL := hide (show Fl (mkD o s n w1.heap.size v) (w1.alloc (.cells C 68)) st from by rw [hC]; exact heap_alloc_last w1 _)
    have HG := hide (mkD_ok (b := w1.heap.size) (v := v) hR hE).1
    have HEnv := hide (mkD_env (o := o) (b := w1.heap.size) (v := v) (known hR hE).sz hE)
    have HN8 := hide (known hR hE).n8
    have HVO : Hid (v.oneCell' = true) := by
      have h9 : C[1045]? = some v := by rw [hC]; exact (rowF_get _ _ _ (by omega)).trans rfl
      exact hide (Array.all_eq_true_iff_forall_mem.1 (unhide HALL) v (Array.mem_of_getElem? h9))
    clear hp hR hE hC u1 u2 u3
    by_cases hf : 0 ≤ fuel ∧ fuel ≤ 10000
    · obtain ⟨hf0, hf1⟩ := hf
      obtain ⟨fu, rfl⟩ : ∃ k : Nat, fuel = (k : Int) := ⟨fuel.toNat, by omega⟩
      have e1 : decide ((fu : Int) < 0) = false := by simp
      have e2 : decide ((10000 : Int) < (fu : Int)) = false := by simp; omega
      go_wp2_with (refine load_part rfl 63 _ rfl (g := w1.heap.size) (off := 134) (f := pgF (mkD o s n w1.heap.size v)) rfl (flC_prog (unhide HFL)) Try.underlying63 rfl size_pg ?_)
      refine (pBegin _ (pgF (mkD o s n w1.heap.size v)) (prgF_one (unhide HVO)) ia il ic fu).mono ?_
      rintro e w2 ⟨g, rfl, hg, hgb, hb2⟩
      have hsz2 : w1.heap.size + 1 ≤ w2.heap.size := by have := hb2.size; simp at this; omega
      have hgl : g < w2.heap.size := (Array.getElem?_eq_some_iff.1 hgb).1
      have hwg : w.heap.size ≤ g := by have := (unhide HB).size; simp at hg; omega
      have HB2 := hide ((unhide HB).trans (((Below.refl _ _).alloc (unhide HB).size _).trans (hb2.mono (by have := (unhide HB).size; simp; omega))))
      obtain ⟨Z0, hzr, z8⟩ : ∃ Z0 : Array Value, (∀ w, (zeroValue 71).run Try.prog w = .ok (.agg Z0) w) ∧ Z0.size = 932 := ⟨_, zero_rn, rnB_size _ _ _ _⟩
      have hall := rnB_one (F := pgF (mkD o s n w1.heap.size v)) (iv := .slice ia il ic) (fu := fu) (ov := .slice (some ⟨g, 0, none⟩) 0 0) (prgF_one (unhide HVO)) rfl rfl
      have z9 := rnB_size (pgF (mkD o s n w1.heap.size v)) (.slice ia il ic) fu (.slice (some ⟨g, 0, none⟩) 0 0)
      obtain ⟨A, HAD⟩ : ∃ A, Hid (rnB (pgF (mkD o s n w1.heap.size v)) (.slice ia il ic) fu (.slice (some ⟨g, 0, none⟩) 0 0) = A) := ⟨_, rfl⟩
      rw [unhide HAD] at hall z9
      rw [unhide HAD]
      have hst2 := store_arr size_rn (w2.alloc (.cells Z0 71)) w2.heap.size _ A z8 z9 hall (heap_alloc_last w2 _)
      rw [World.setRow_alloc_new] at hst2
      have HK : Hid (QK ⟨w2.heap.size, mkD o s n w1.heap.size v, .slice ia il ic, inpN n inp, w⟩ (s.size + 1)) := hide ⟨unhide HG, by show w.heap.size ≤ w2.heap.size; omega, (unhide HIN n (unhide HN8)).congr (fun d hd => inpN_in hd), fun d hd => inpN_out hd⟩
      have HPA : Hid (PAt ⟨w2.heap.size, mkD o s n w1.heap.size v, .slice ia il ic, inpN n inp, w⟩ (w2.alloc (.cells A 71)) (.slice (some ⟨g, 0, none⟩) 0 0) ⟨fun _ => 0, fun _ => 0, [], fu⟩ 0) := by
        refine hide ⟨?_, ?_, (unhide HB2).alloc (by have := (unhide HB2).size; omega) _⟩
        · rw [← unhide HAD]; exact heap_alloc_last w2 _
        · exact ownsRow_empty ((heap_alloc_old _ _ hgl).trans hgb) hwg
      have HX : Hid (exD ⟨w2.heap.size, mkD o s n w1.heap.size v, .slice ia il ic, inpN n inp, w⟩ (s.size + 1) 10000 (dE (mkD o s n w1.heap.size v)).main 0 ⟨fun _ => 0, fun _ => 0, [], fu⟩ = rnR o s n inp fu) := by
        show ecR (dE (mkD o s n w1.heap.size v)) (inpN n inp) fu = _
        rw [unhide HEnv]; rfl
      clear hall hg hgb hb2
      go_wp2_with fail
      refine (pWhole (unhide HK) (unhide HPA) (sane0 (by omega)) (show fu ≤ 10000 by omega)).mono ?_
      rintro e w3 ⟨rfl, ov3, hr3⟩
      rw [unhide HX] at hr3
      rw [unhide HX]
      have q1 : w3.cell? ⟨w2.heap.size, 931, none⟩ = some ov3 := hr3.co
      have HR3 := hide hr3
      clear hr3
      go_wp2_with fail
      go_ret3
      exact ⟨⟨0, p, n, unhide HCK, Or.inr (Or.inr ⟨rfl, unhide HP, fu, ov3, rfl, by omega, (unhide HR3).out, rfl⟩)⟩, (unhide HR3).bel⟩
    · by_cases e1 : fuel < 0
      · have e1' : decide (fuel < 0) = true := by simpa using e1
        go_wp2_with fail
        go_ret3
        exact ⟨⟨0, p, n, unhide HCK, Or.inr (Or.inl ⟨rfl, unhide HP, hf, rfl⟩)⟩, (unhide HB).trans ((Below.refl _ _).alloc (unhide HB).size _)⟩
      · have e1' : decide (fuel < 0) = false := by simpa using e1
        have e2' : decide ((10000 : Int) < fuel) = true := by simp; omega
        go_wp2_with fail
        go_ret3
        exact ⟨⟨0, p, n, unhide HCK, Or.inr (Or.inl ⟨rfl, unhide HP, hf, rfl⟩)⟩, (unhide HB).trans ((Below.refl _ _).alloc (unhide HB).size _)⟩
  · have ha' : (a != 0) = true := by simpa using ha
    go_wp2_with fail
    go_quiet (fail)
    go_wp2_with fail
    go_ret3
    exact ⟨⟨a, p, n, unhide HCK, Or.inl ⟨ha, rfl⟩⟩, below_drewN' ((unhide HB).trans ((Below.refl _ _).alloc (unhide HB).size _)) _⟩

theorem hushRun_ok : HushRun := hushRunO_ok.run

end Go.Proofs.Ytfcflnnleadpkab

namespace Go.Proofs.Ytfcflnnleadpkab
open Go.RowKit
variable {w : World}

set_option maxHeartbeats 800000 in
theorem sameInts_any {a b : Value} {m k : Nat} {L M : Nat → Int} (hm : m ≤ 1000000000000000000) (ha : Sli w a m L) (hb : Sli w b k M) :
    Calls Try.prog 6 #[a, b] w fun e w' => ∃ x, e = .returned (.bool x) ∧ (x = true ↔ m = k ∧ ∀ i, i < m → L i = M i) ∧ ∃ q, w' = w.drewN q := by
  obtain ⟨aa, ac, rfl, _, hca⟩ := ha
  obtain ⟨ba, bc, rfl, _, hcb⟩ := hb
  have HCA := hide hca
  have HCB := hide hcb
  clear hca hcb
  by_cases hmk : m = k
  · subst hmk
    go_enter Try.func6, Try.ntmps6
    go_wp2_with fail
    go_loopg [5] m (fun g d wr => ∃ (j q : Nat), j + g = m ∧ d = .int .i64 (j : Int) ∧ wr = w.drewN q ∧ ∀ i, i < j → L i = M i)
    case atStart => exact ⟨0, 0, Nat.zero_add _, rfl, rfl, fun i hi => by omega⟩
    case round =>
      obtain ⟨j, q, hjg, rfl, rfl, hall⟩ := hrel
      have HALL := hide hall
      clear hall
      by_cases hlt : j < m
      · have hlt' : (j : Int) < (m : Int) := by omega
        obtain ⟨ad, rfl, c1⟩ := unhide HCA j hlt
        obtain ⟨bd, rfl, c2⟩ := unhide HCB j hlt
        have hw1 : Hid (Value.int .i64 ((j : Int) + 1) = Value.int .i64 ((j + 1 : Nat) : Int)) := hide (congrArg (Value.int .i64) (by omega))
        obtain ⟨x, HX⟩ : ∃ x, Hid (L j = x) := ⟨_, rfl⟩
        obtain ⟨y, HY⟩ : ∃ y, Hid (M j = y) := ⟨_, rfl⟩
        rw [unhide HX] at c1
        rw [unhide HY] at c2
        by_cases hxy : x = y
        · subst hxy
          go_wp2_with fail
          go_quiet (fail)
          go_wp2_with fail
          go_roundg (gk - 1)
          case measure => omega
          case rel => exact ⟨j + 1, q + nq, by omega, unhide hw1, rfl, fun i hi => by
            by_cases e : i = j
            · rw [e, unhide HX, unhide HY]
            · exact unhide HALL i (by omega)⟩
        · have hxy' : decide (x = y) = false := by simpa using hxy
          go_wp2_with fail
          go_quiet (fail)
          go_wp2_with fail
          go_ret
          refine ⟨false, rfl, ⟨(fun h => by cases h), fun h => ?_⟩, q + nq, by rw [World.drewN_drewN]⟩
          have := h.2 j hlt
          rw [unhide HX, unhide HY] at this
          exact absurd this hxy
      · have hje : j = m := by omega
        subst hje
        have hlt' : decide ((j : Int) < (j : Int)) = false := by simp
        go_wp2_with fail
        go_ret
        exact ⟨true, rfl, ⟨fun _ => ⟨by trivial, unhide HALL⟩, fun _ => rfl⟩, q, rfl⟩
  · have hmk' : decide ((m : Int) = (k : Int)) = false := by simp; omega
    go_enter Try.func6, Try.ntmps6
    go_wp2_with fail
    go_ret
    exact ⟨false, rfl, ⟨(fun h => by cases h), fun h => absurd h.1 hmk⟩, 0, rfl⟩

end Go.Proofs.Ytfcflnnleadpkab

namespace Go.Proofs.Ytfcflnnleadpkab
open Go.RowKit
variable {E : Env} {w w' w0 w1 wa : World} {st : WS}

/-- append, of a slice wherever it lies, nil or not. -/
theorem wpList_append_sli {P : Program} {ops : Array Oper} {rest : List Oper} {o : Oper} {a : Act} {Q : Exit → Act → World → Prop} (hgd : o.guard = none) (s x : Operand) (t : TypeId)
    (ho : o.op = .call { callee := .builtin .append, args := #[s, x], argTypes := #[t, t] })
    (base : Nat) (e : TypeId) (i : TypeInfo) (z : Value) (size bytes : Nat) (ht : P.underlying t = some (.slice e)) (hi : P.info? e = some i) (hz : i.zero = some z)
    (hsize : i.size = size) (hby : i.bytes = bytes) (hzs : z.cells.size = size) (hsz : 0 < size)
    (v : Value) (n : Nat) (xs : List Value) (hs : a.eval s = v) (hown : w.ownsRow base e size v n xs)
    (ad : Option Addr) (m c : Nat) (news : List Value) (hx : a.eval x = .slice ad m c) (h0 : ad = none → m = 0 ∧ c = 0) (hl : news.length = m * size) (hnews : ∀ j u, news[j]? = some u → ∃ b, ad = some b ∧ w.cell? (b.add j) = some u) (h1 : ∀ u ∈ news, u.oneCell' = true)
    (h63 : n + m ≤ maxLen) (hbytes : (n + m) * bytes ≤ 140737488355328) (hbase : base ≤ w.heap.size)
    (h : ∀ v' w', w'.ownsRow base e size v' (n + m) (xs ++ news) → w.grownBy w' v.ownBlock → (v'.ownBlock = v.ownBlock ∨ v'.ownBlock = some w.heap.size) → wpList P ops Q rest (a.put o.dst v') w') :
    wpList P ops Q (o :: rest) a w := by
  cases ad with
  | some b => exact wpList_append_own_at w hgd s x t ho base e i z size bytes ht hi hz hsize hby hzs hsz v n xs hs hown b m c news hx hl (fun j u hu => by obtain ⟨b', e', h'⟩ := hnews j u hu; injection e' with e'; rw [e']; exact h') h1 h63 hbytes hbase (fun v' w' p1 p2 _ p4 => h v' w' p1 p2 p4)
  | none =>
    obtain ⟨rfl, rfl⟩ := h0 rfl
    have hn : news = [] := List.eq_nil_of_length_eq_zero (by rw [hl]; simp)
    subst hn
    refine wpList_plain hgd fun K hK => ?_
    have hr := run_append_owned_none (P := P) w base t o.type e i size ht hi v n xs hown
    unfold Oper.wp execOp
    simp only [ho, resolve, invoke, builtin, Sem.run_bind, Sem.run_pure, Result.andThen_ok, List.map_toArray, List.map_cons, List.map_nil, hs, hx, hr]
    refine hK _ _ (h v w ?_ ?_ (Or.inl rfl))
    · simpa using hown
    · exact ⟨rfl, rfl, rfl, Nat.le_refl _, fun _ _ _ => rfl⟩

end Go.Proofs.Ytfcflnnleadpkab

namespace Go.Proofs.Ytfcflnnleadpkab
open Go.RowKit
variable {w w' : World}

/-- Numbers as cells. -/
def zC (m : Nat) (Z : Nat → Int) : List Value := (List.range m).map (fun i => .int .i64 (Z i))
theorem zC_len (m : Nat) (Z : Nat → Int) : (zC m Z).length = m := by simp [zC]
theorem zC_get {m k : Nat} {Z : Nat → Int} (h : k < m) : (zC m Z)[k]? = some (.int .i64 (Z k)) := by simp [zC, h]
/-- The lists that came in, as they lie. -/
def RowsIn (w : World) (iv : Value) (m : Nat) (L : Nat → Nat) (Z : Nat → Nat → Int) : Prop := ∃ a cap, iv = .slice a m cap ∧ (a = none → m = 0 ∧ cap = 0) ∧ ∀ d, d < m → ∃ ad u, a = some ad ∧ w.cell? (ad.add d) = some u ∧ Sli w u (L d) (Z d)
theorem RowsIn.below {iv : Value} {m : Nat} {L : Nat → Nat} {Z : Nat → Nat → Int} (h : RowsIn w iv m L Z) (hb : Below w.heap.size w w') : RowsIn w' iv m L Z := by
  obtain ⟨a, cap, e, h0, h⟩ := h
  refine ⟨a, cap, e, h0, fun d hd => ?_⟩
  obtain ⟨ad, u, e1, c1, hs⟩ := h d hd
  exact ⟨ad, u, e1, keepC hb c1, hs.below hb⟩
def inpOf (m : Nat) (L : Nat → Nat) (Z : Nat → Nat → Int) (d : Nat) : List Nat := if d < m then (List.range (L d)).map (fun j => (Z d j % 65536).toNat) else []
theorem RowsIn.inp {iv : Value} {m : Nat} {L : Nat → Nat} {Z : Nat → Nat → Int} (h : RowsIn w iv m L Z) (n : Nat) : InpR w iv n (inpOf m L Z) := by
  obtain ⟨a, cap, e, h0, h⟩ := h
  refine ⟨a, m, cap, e, fun d _ => ⟨fun hd => ?_, fun hd => if_neg (by omega)⟩⟩
  obtain ⟨ad, u, e1, c1, ra, rc, rfl, _, hs⟩ := h d hd
  refine ⟨ad, ra, L d, rc, Z d, e1, c1, hs, if_pos hd⟩
/-- Copies of the first j lists. -/
def Copies (w : World) (B : Nat) (Us : List Value) (j : Nat) (L : Nat → Nat) (Z : Nat → Nat → Int) : Prop := ∀ d, d < j → ∃ u, Us[d]? = some u ∧ w.ownsRow B 3 1 u (L d) (zC (L d) (Z d))
theorem ownsRow_block {B n sz g : Nat} {e : TypeId} {v : Value} {xs : List Value} (h : w.ownsRow B e sz v n xs) (hg : v.ownBlock = some g) : ∃ cur, w.heap[g]? = some (.cells cur e (0, 0)) := by
  rcases h.2 with ⟨rfl, _⟩ | ⟨g', cap, cur, rfl, _, hc, _⟩
  · cases hg
  · simp [Value.ownBlock] at hg
    subst hg
    exact ⟨cur, hc⟩
theorem Copies.keep {B j : Nat} {Us : List Value} {L : Nat → Nat} {Z : Nat → Nat → Int} (h : Copies w B Us j L Z) (hk : ∀ (g : Nat) (cur : Array Value), w.heap[g]? = some (Obj.cells cur 3 (0, 0)) → w'.heap[g]? = w.heap[g]?) : Copies w' B Us j L Z := by
  intro d hd
  obtain ⟨u, e, ho⟩ := h d hd
  refine ⟨u, e, ownsRow_keep2 ho (fun g hg => ?_)⟩
  obtain ⟨cur, hc⟩ := ownsRow_block ho hg
  exact hk g cur hc
theorem Copies.below {B j : Nat} {Us : List Value} {L : Nat → Nat} {Z : Nat → Nat → Int} (h : Copies w B Us j L Z) (hb : Below w.heap.size w w') : Copies w' B Us j L Z :=
  h.keep (fun g _ hg => hb.block g (Array.getElem?_eq_some_iff.1 hg).1)
theorem Copies.app {B j : Nat} {Us : List Value} {L : Nat → Nat} {Z : Nat → Nat → Int} {u : Value} (hl : Us.length = j) (h : Copies w B Us j L Z) (hu : w.ownsRow B 3 1 u (L j) (zC (L j) (Z j))) : Copies w B (Us ++ [u]) (j + 1) L Z := by
  intro d hd
  by_cases e : d < j
  · obtain ⟨v, h1, h2⟩ := h d e
    exact ⟨v, by rw [List.getElem?_append_left (by omega)]; exact h1, h2⟩
  · have : d = j := by omega
    subst this
    exact ⟨u, by rw [← hl]; simp, hu⟩

/-- In one form: the error, the ending, the events. -/
def lvOk (a fuel : Int) : Bool := decide (a = 0) && decide (0 ≤ fuel ∧ fuel ≤ 10000)
def lvC (a fuel : Int) : Int := if a ≠ 0 then a else if 0 ≤ fuel ∧ fuel ≤ 10000 then 0 else 7
def lvT (o s : ByteArray) (n : Nat) (inp : Nat → List Nat) (a fuel : Int) : Nat := if lvOk a fuel = true then (rnR o s n inp fuel.toNat).2 else 0
def lvE (o s : ByteArray) (n : Nat) (inp : Nat → List Nat) (a fuel : Int) : List (Nat × Nat) := if lvOk a fuel = true then (rnR o s n inp fuel.toNat).1.out else []
theorem lvE_len (o s : ByteArray) (n : Nat) (inp : Nat → List Nat) (a fuel : Int) : (lvE o s n inp a fuel).length ≤ 10000 := by
  unfold lvE
  split
  · rename_i h
    unfold lvOk at h
    simp at h
    have := rnR_len o s n inp fuel.toNat
    omega
  · simp
theorem lvT_le (o s : ByteArray) (n : Nat) (inp : Nat → List Nat) (a fuel : Int) : lvT o s n inp a fuel ≤ 2 := by
  unfold lvT
  split
  · exact rnR_end _ _ _ _ _
  · omega
theorem HushRunO.one (H : HushRunO) (w : World) (o s : ByteArray) (iv : Value) (inp : Nat → List Nat) (fuel : Int) (hI : ∀ n, n ≤ 8 → InpR w iv n inp) :
    Calls Try.prog 5 #[.string o, .string s, iv, .int .i64 fuel] w fun e w' => (∃ (a p : Int) (n : Nat) (v : Value), CkPost o s a p n ∧ e = .returned (.tuple #[v, .int .i64 ((lvT o s n inp a fuel : Nat) : Int), .int .i64 (lvC a fuel)]) ∧ w'.ownsRow w.heap.size 35 2 v (lvE o s n inp a fuel).length (evC (lvE o s n inp a fuel))) ∧ Below w.heap.size w w' := by
  refine (H w o s iv inp fuel hI).mono ?_
  rintro e w' ⟨⟨a, p, n, hc, hans⟩, hb⟩
  refine ⟨⟨a, p, n, ?_⟩, hb⟩
  rcases hans with ⟨ha, rfl⟩ | ⟨ha, hp, hf, rfl⟩ | ⟨ha, hp, f, v, rfl, hf, hown, rfl⟩
  · have h1 : lvOk a fuel = false := by unfold lvOk; simp [ha]
    have e1 : lvT o s n inp a fuel = 0 := if_neg (by rw [h1]; decide)
    have e2 : lvC a fuel = a := if_pos ha
    have e3 : lvE o s n inp a fuel = [] := if_neg (by rw [h1]; decide)
    rw [e1, e2, e3]
    exact ⟨.slice none 0 0, hc, rfl, World.ownsRow_nil _ _ _ _⟩
  · have h1 : lvOk a fuel = false := by unfold lvOk; simp only [Bool.and_eq_false_iff, decide_eq_false_iff_not]; exact Or.inr hf
    have e1 : lvT o s n inp a fuel = 0 := if_neg (by rw [h1]; decide)
    have e2 : lvC a fuel = 7 := (if_neg (fun h => h ha)).trans (if_neg hf)
    have e3 : lvE o s n inp a fuel = [] := if_neg (by rw [h1]; decide)
    rw [e1, e2, e3]
    exact ⟨.slice none 0 0, hc, rfl, World.ownsRow_nil _ _ _ _⟩
  · have hff : 0 ≤ (f : Int) ∧ (f : Int) ≤ 10000 := by omega
    have h1 : lvOk a (f : Int) = true := by unfold lvOk; simp only [Bool.and_eq_true, decide_eq_true_eq]; exact ⟨ha, hff⟩
    have e0 : ((f : Int)).toNat = f := by omega
    have e1 : lvT o s n inp a (f : Int) = (rnR o s n inp f).2 := by unfold lvT; rw [if_pos h1, e0]
    have e2 : lvC a (f : Int) = 0 := (if_neg (fun h => h ha)).trans (if_pos hff)
    have e3 : lvE o s n inp a (f : Int) = (rnR o s n inp f).1.out := by unfold lvE; rw [if_pos h1, e0]
    rw [e1, e2, e3]
    exact ⟨v, hc, rfl, hown⟩

/-- All but the one's own block is as it was. -/
structure KX (v : Value) (w w' : World) : Prop where
  os : w'.os = w.os
  tape : w'.tape = w.tape
  output : w'.output = w.output
  size : w'.heap.size = w.heap.size
  block : ∀ b, some b ≠ v.ownBlock → w'.heap[b]? = w.heap[b]?
/-- The first events' levels are turned. -/
def XMark (w : World) (v : Value) (m j : Nat) : Prop := ∀ g cap, v = .slice (some ⟨g, 0, none⟩) m cap → ∃ cur, w.heap[g]? = some (.cells cur 35 (0, 0)) ∧ m * 2 ≤ cur.size ∧ ∀ i, i < j → cur[i * 2]? = some (.int .i64 (-9))
theorem XMark.start {B m : Nat} {v : Value} {xs : List Value} (h : w.ownsRow B 35 2 v m xs) : XMark w v m 0 := by
  intro g cap e
  rcases h.2 with ⟨e1, _⟩ | ⟨g', cap', cur, e1, _, hg, h1, _, h2, _⟩
  · rw [e1] at e; cases e
  · rw [e1] at e
    injection e with e2 _ e3
    injection e2 with e2
    injection e2 with e2 _ _
    subst e2 e3
    exact ⟨cur, hg, by rw [h2]; omega, fun i hi => by omega⟩
theorem XMark.below {m j : Nat} {v : Value} (h : XMark w v m j) (hb : Below w.heap.size w w') : XMark w' v m j := by
  intro g cap e
  obtain ⟨cur, hg, h1, h2⟩ := h g cap e
  exact ⟨cur, (hb.block g (Array.getElem?_eq_some_iff.1 hg).1).trans hg, h1, h2⟩
theorem XMark.set {m j g cap : Nat} (hj : j < m) (h : XMark w (.slice (some ⟨g, 0, none⟩) m cap) m j) : XMark (w.setCell ⟨g, j * 2, none⟩ (.int .i64 (-9))) (.slice (some ⟨g, 0, none⟩) m cap) m (j + 1) := by
  intro g' cap' e
  injection e with e2 _ e3
  injection e2 with e2
  injection e2 with e2 _ _
  subst e2 e3
  obtain ⟨cur, hg, h1, h2⟩ := h g cap rfl
  refine ⟨cur.setIfInBounds (j * 2) (.int .i64 (-9)), ?_, by simpa using h1, fun i hi => ?_⟩
  · rw [setCell_eq_setRow w g _ _ _ _ _ hg]; exact setRow_heap w g _ _ _ _ hg
  · rw [Array.getElem?_setIfInBounds]
    by_cases e : j = i
    · subst e; rw [if_pos rfl, if_pos (by omega)]
    · rw [if_neg (by omega)]; exact h2 i (by omega)
theorem KX.refl (v : Value) (w : World) : KX v w w := ⟨rfl, rfl, rfl, rfl, fun _ _ => rfl⟩
theorem KX.set {m g cap : Nat} (h : KX (.slice (some ⟨g, 0, none⟩) m cap) w w') (j : Nat) (x : Value) : KX (.slice (some ⟨g, 0, none⟩) m cap) w (w'.setCell ⟨g, j, none⟩ x) :=
  ⟨h.os, h.tape, h.output, by simp [World.setCell]; exact h.size, fun b hb => (Below.heap_setCell w' _ _ b (fun e => hb (by rw [e]; rfl))).trans (h.block b hb)⟩
theorem KX.below {v : Value} {B : Nat} (h : KX v w w') (hv : ∀ g, v.ownBlock = some g → B ≤ g) : Below B w w' :=
  ⟨h.os, h.tape, h.output, by rw [h.size]; exact Nat.le_refl _, fun b hb => h.block b (fun e => by have := hv b e.symm; omega)⟩

end Go.Proofs.Ytfcflnnleadpkab
