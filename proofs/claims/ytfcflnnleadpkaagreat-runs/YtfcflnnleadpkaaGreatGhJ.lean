import Derived.Test.YtfcflnnleadpkaaGreatGeJ
import Derived.Test.YtfcflnnleadpkaaGreatGbJ
import Derived.Test.YtfcflnnleadpkaaGreatVaJ
import Derived.OwnWalk
import Derived.Deep.MidRow
import Derived.Test.YtfcflnnleadpkaaGreatMaJ
import Derived.OrdersHeld
import Derived.RegionTactic
import Derived.Test.YtfcflnnleadpkaaGreatXhJ
namespace Go.Proofs.YtfcflnnleadpkaaGreat
open Go.RowKit

def noS : Nat → Int := fun _ => 0
def noTT : Nat → Nat → Int := fun _ _ => 0
def r0 : RdS := ⟨0, 0, [], noTT⟩
/-- A program of which nothing is read. -/
def prg0 (e : Int) (s : ByteArray) (N : Int) : Array Value := prgC e 0 s N 0 0 noS noTT (.slice none 0 0)
theorem info_prg : (Tryz.prog.info? 52).map (fun i => (i.zero, i.size)) = some (some (.agg (prg0 0 ByteArray.empty 0)), 912) := by kernel_rfl
theorem zero_prg : ∀ w, (zeroValue 52).run Tryz.prog w = .ok (.agg (prg0 0 ByteArray.empty 0)) w := (zero_of_info info_prg).1
theorem size_prg : (Tryz.prog.info? 52).map (·.size) = some 912 := (zero_of_info info_prg).2
theorem prg0_size (e : Int) (s : ByteArray) (N : Int) : (prg0 e s N).size = 912 := rowF_size _ _
theorem prg0_all (e : Int) (s : ByteArray) (N : Int) : (prg0 e s N).all (·.oneCell') = true := rowF_all (prgF_one rfl)
theorem prg0_set0 (e e' : Int) (s : ByteArray) (N : Int) : (prg0 e s N).setIfInBounds 0 (.int .i64 e') = prg0 e' s N := prg_set0
theorem prg0_set1 (e : Int) (s : ByteArray) (N : Int) : (prg0 e s N).setIfInBounds 1 (.int .i64 0) = prg0 e s N := prg_set1
theorem prg0_set2 (e : Int) (s s' : ByteArray) (N : Int) : (prg0 e s N).setIfInBounds 2 (.string s') = prg0 e s' N := by
  refine rowF_set rfl (fun k hk hne => ?_)
  unfold prgF; rw [if_neg hne, if_neg hne]
theorem prg0_set3 (e : Int) (s : ByteArray) (N N' : Int) : (prg0 e s N).setIfInBounds 3 (.int .i64 N') = prg0 e s N' := by
  refine rowF_set rfl (fun k hk hne => ?_)
  unfold prgF; rw [if_neg hne, if_neg hne]
theorem ret_prg {fn : Func} {k : Tmp} (h : fn.results = #[.cell k 52]) (tmps : Array Value) (w : World) (g : Nat) (C : Array Value) (hC : C.size = 912)
    (hp : tmps.getD k undef = .pointer (some ⟨g, 0, none⟩)) (hg : w.heap[g]? = some (.cells C 52 (0, 0))) :
    (results fn tmps).run Tryz.prog w = .ok (.agg C) w :=
  results_cell_row h tmps w g _ _ _ _ hp hg Tryz.underlying52 rfl (by rw [hC]; exact size_prg)

set_option maxHeartbeats 2000000 in
set_option maxRecDepth 200000 in
theorem rp_long (w : World) (s : ByteArray) (N : Nat) (h : 300 < s.size) :
    Calls Tryz.prog 21 #[.string s, .int .i64 (N : Int)] w fun e w' => e = .returned (.agg (prg0 1 ByteArray.empty 0)) ∧ Below w.heap.size w w' := by
  have hz := zero_prg
  have z0 := prg0_size 0 ByteArray.empty 0
  have z1 := prg0_size 1 ByteArray.empty 0
  have s0 := prg0_set0 0 1 ByteArray.empty 0
  have s1 := prg0_set1 1 ByteArray.empty 0
  have hgt : (300 : Int) < (s.size : Int) := by omega
  have hst := store_arr size_prg (w.alloc (.cells (prg0 0 ByteArray.empty 0) 52)) w.heap.size _ (prg0 1 ByteArray.empty 0) (prg0_size _ _ _) (prg0_size _ _ _) (prg0_all _ _ _) (heap_alloc_last w _)
  rw [World.setRow_alloc_new] at hst
  go_enter Tryz.func21, Tryz.ntmps21
  go_wp2_with fail
  refine bodyPost_ret (v := .agg (prg0 1 ByteArray.empty 0)) (ret_prg Tryz.results21 _ _ w.heap.size _ (prg0_size _ _ _) rfl (heap_alloc_last w _)) rfl ⟨rfl, ?_⟩
  exact (Below.refl _ _).alloc (Nat.le_refl _) _

/-- What is read of a text that is not too long. -/
def rdFin (s : ByteArray) (N : Nat) : Nat × (Nat → Int) × RdS :=
  ((rdAll s (nvOf (bt s) N) N noS r0).1, (rdAll s (nvOf (bt s) N) N noS r0).2.1, if (rdAll s (nvOf (bt s) N) N noS r0).2.2.e = 0 then msR s (rdAll s (nvOf (bt s) N) N noS r0).1 (rdAll s (nvOf (bt s) N) N noS r0).2.2 else (rdAll s (nvOf (bt s) N) N noS r0).2.2)
def prgA (s : ByteArray) (N : Nat) (v : Value) : Array Value := prgC (rdFin s N).2.2.e (rdFin s N).2.2.p s N (nvOf (bt s) N) (rdFin s N).1 (rdFin s N).2.1 (rdFin s N).2.2.T v
theorem prgA_size (s : ByteArray) (N : Nat) (v : Value) : (prgA s N v).size = 912 := rowF_size _ _
theorem prgA_all (s : ByteArray) (N : Nat) {v : Value} (h : v.oneCell' = true) : (prgA s N v).all (·.oneCell') = true := rowF_all (prgF_one h)
theorem nvOf_size (s : ByteArray) (N : Nat) : nvOf (bt s) N ≤ s.size := by
  unfold nvOf
  have : ∀ f k, k ≤ s.size → cntV (bt s) N f k ≤ s.size := by
    intro f
    induction f with
    | zero => intro k h; exact h
    | succ f ih =>
      intro k h
      simp only [cntV]
      split
      · rename_i hv
        refine ih (k + 1) ?_
        by_cases hk : k < s.size
        · exact hk
        · rw [bt_out (s := s) k (by omega)] at hv
          have h9 : ((0 : Int) == 63 || isDB 0 N) = true := hv
          rw [isDB_no (by omega)] at h9
          cases h9
      · exact h
  exact this 8 0 (Nat.zero_le _)

theorem rdG_len {s : ByteArray} {nv N : Nat} : ∀ (g a np : Nat) (S : Nat → Int) (r : RdS), s.size ≤ 300 → (a ≤ s.size ∨ r.e ≠ 0) → r.C.length ≤ a → a ≤ 302 → (rdG s nv N g a np S r).2.2.C.length ≤ 302 := by
  intro g
  induction g with
  | zero => intro a np S r _ _ h1 h2; show r.C.length ≤ 302; omega
  | succ g ih =>
    intro a np S r hs h0 h1 h2
    by_cases h : r.e = 0 ∧ a < s.size
    · by_cases h4 : 4 ≤ np
      · rw [rdG_full h h4, refR_C]; omega
      · rw [rdG_go h h4]
        have hp := rdP_pos (c := bt s) (sz := s.size) (nv := nv) (N := N) (s.size + 1) 115 (a + 1) (mkR s 59 a r) h.2 (by rw [mkR_C]; omega)
        exact ih _ _ _ _ hs (Or.inl hp.2.1) hp.2.2 (by omega)
    · rw [rdG_end h]; show r.C.length ≤ 302; omega
theorem rdAll_len (s : ByteArray) (N : Nat) (hs : s.size ≤ 300) : (rdAll s (nvOf (bt s) N) N noS r0).2.2.C.length ≤ 302 := by
  have hn := nvOf_size s N
  have hC : (mkR s 58 (nvOf (bt s) N) r0).C.length ≤ nvOf (bt s) N + 1 := by rw [mkR_C]; show 0 ≤ _; omega
  by_cases he : (mkR s 58 (nvOf (bt s) N) r0).e = 0
  · have hlt : nvOf (bt s) N < s.size := by
      by_cases e : nvOf (bt s) N < s.size
      · exact e
      · exact absurd he (mkR_far e)
    have hp := rdP_pos (c := bt s) (sz := s.size) (nv := nvOf (bt s) N) (N := N) (s.size + 1) 115 (nvOf (bt s) N + 1) (mkR s 58 (nvOf (bt s) N) r0) hlt hC
    exact rdG_len _ _ _ _ _ hs (Or.inl hp.2.1) hp.2.2 (by omega)
  · unfold rdAll
    rw [rdP_stuck he]
    exact rdG_len _ _ _ _ _ hs (Or.inr he) hC (by show nvOf (bt s) N + 1 ≤ 302; omega)

set_option maxHeartbeats 4000000 in
set_option maxRecDepth 200000 in
theorem rp_ok (w : World) (s : ByteArray) (N : Nat) (h : s.size ≤ 300) :
    Calls Tryz.prog 21 #[.string s, .int .i64 (N : Int)] w fun e w' => (∃ a n c, e = .returned (.agg (prgA s N (.slice a n c)))) ∧ Below w.heap.size w w' := by
  have hz := zero_prg
  have z0 := prg0_size 0 ByteArray.empty 0
  have z1 := prg0_size 0 s 0
  have z2 := prg0_size 0 s N
  have s0 := prg0_set2 0 ByteArray.empty s 0
  have s1 := prg0_set3 0 s 0 N
  have hgt : decide ((300 : Int) < (s.size : Int)) = false := by simp; omega
  have hst := store_arr size_prg ((w.alloc (.cells (prg0 0 ByteArray.empty 0) 52)).alloc (.cells (prg0 0 ByteArray.empty 0) 52)) (w.heap.size + 1) _ (prg0 0 s N) (prg0_size _ _ _) (prg0_size _ _ _) (prg0_all _ _ _) (heap_two w _ _).2
  rw [show w.heap.size + 1 = (w.alloc (.cells (prg0 0 ByteArray.empty 0) 52)).heap.size by simp, World.setRow_alloc_new] at hst
  rw [show (w.alloc (.cells (prg0 0 ByteArray.empty 0) 52)).heap.size = w.heap.size + 1 by simp] at hst
  go_enter Tryz.func21, Tryz.ntmps21
  go_wp2_with fail
  have HE := hide (show ∀ v, prgA s N v = prgC (rdFin s N).2.2.e (rdFin s N).2.2.p s N (nvOf (bt s) N) (rdFin s N).1 (rdFin s N).2.1 (rdFin s N).2.2.T v from fun _ => rfl)
  have HPR := hide (show PR (w.heap.size + 2) ((w.alloc (.cells (prg0 0 ByteArray.empty 0) 52)).alloc (.cells (prg0 0 s N) 52)) (w.heap.size + 1) s N 0 0 noS r0 (.slice none 0 0) from ⟨(heap_two w _ _).2, World.ownsRow_nil _ _ _ _⟩)
  have HG0 := hide (heap_two w (.cells (prg0 0 ByteArray.empty 0) 52) (.cells (prg0 0 s N) 52)).1
  have HB0 := hide (below_two w (.cells (prg0 0 ByteArray.empty 0) 52) (.cells (prg0 0 s N) 52))
  have hsz0 : ((w.alloc (.cells (prg0 0 ByteArray.empty 0) 52)).alloc (.cells (prg0 0 s N) 52)).heap.size = w.heap.size + 2 := by simp
  have HSZ := hide hsz0
  clear hst hsz0
  generalize (w.alloc (.cells (prg0 0 ByteArray.empty 0) 52)).alloc (.cells (prg0 0 s N) 52) = wa at *
  refine (vars_ok (unhide HPR)).mono ?_
  rintro e w3 ⟨rfl, hp3, hk3⟩
  have HP3 := hide hp3
  have HK3 := hide hk3
  clear hp3 hk3
  go_wp2_with fail
  refine (stmts_ok h (nvOf_size s N) (unhide HP3) (by have := unhide HSZ; have := (unhide HK3).size; omega) (by show 0 ≤ _; omega)).mono ?_
  rintro e w4 ⟨rfl, v4, hp4, hk4, hn4⟩
  have HK4 := hide ((unhide HK3).trans hk4 (Or.inl rfl))
  have HN4 := hide (show v4.ownBlock = (Value.slice none 0 0).ownBlock ∨ ∀ k, v4.ownBlock = some k → wa.heap.size ≤ k from by
    rcases hn4 with e | e
    · exact Or.inl e
    · exact Or.inr (fun k hk => Nat.le_trans (unhide HK3).size (e k hk)))
  have HLEN := hide (rdAll_len s N h)
  have HP4 := hide hp4
  have c0 := hp4.c0
  have HDG := hide (rdAll_digs (s := s) (N := N) (nv := nvOf (bt s) N) (S := noS) (r := r0) (fun k hk => by cases hk))
  have HFIN := hide (show rdFin s N = ((rdAll s (nvOf (bt s) N) N noS r0).1, (rdAll s (nvOf (bt s) N) N noS r0).2.1, if (rdAll s (nvOf (bt s) N) N noS r0).2.2.e = 0 then msR s (rdAll s (nvOf (bt s) N) N noS r0).1 (rdAll s (nvOf (bt s) N) N noS r0).2.2 else (rdAll s (nvOf (bt s) N) N noS r0).2.2) from rfl)
  clear hp4 hk4 hn4
  have fin : ∀ (w5 : World) (R5 : RdS) (np5 : Nat) (S5 : Nat → Int), PR (w.heap.size + 2) w5 (w.heap.size + 1) s N (nvOf (bt s) N) np5 S5 R5 v4 → Kp (w.heap.size + 1) (Value.slice none 0 0).ownBlock wa w5 → rdFin s N = (np5, S5, R5) →
      (∃ a n c, v4 = .slice a n c) ∧ w5.heap[w.heap.size]? = some (.cells (prg0 0 ByteArray.empty 0) 52 (0, 0)) ∧ w5.heap[w.heap.size + 1]? = some (.cells (prgA s N v4) 52 (0, 0)) ∧ Below w.heap.size w w5 := by
    intro w5 R5 np5 S5 hp hk hf
    have hsz := unhide HSZ
    refine ⟨?_, ?_, ?_, ?_⟩
    · obtain ⟨a, c, e⟩ := ownsRow_slice hp.own
      exact ⟨_, _, _, e⟩
    · exact (hk.block w.heap.size (by omega) (by omega) (by simp [Value.ownBlock])).trans (unhide HG0)
    · rw [unhide HE, hf]; exact hp.pr
    · refine (unhide HB0).trans ⟨hk.os, hk.tape, hk.output, hk.size, fun k hk' => hk.block k (by omega) (by omega) (by simp [Value.ownBlock])⟩
  have FIN := hide fin
  clear fin
  generalize rdAll s (nvOf (bt s) N) N noS r0 = RR at *
  obtain ⟨np4, S4, r4⟩ := RR
  by_cases he : r4.e = 0
  · have c0' : w4.cell? ⟨w.heap.size + 1, 0, none⟩ = some (.int .i64 0) := by rw [← he]; exact c0
    clear c0
    go_wp2_with fail
    refine (missing_ok (unhide HP4) (unhide HLEN) (unhide HDG)).mono ?_
    rintro e w5 ⟨rfl, hp5, hk5⟩
    obtain ⟨⟨sa, sn, sc, rfl⟩, g0, g1, hb5⟩ := unhide FIN w5 _ _ _ hp5 ((unhide HK4).trans hk5 (unhide HN4)) (by rw [unhide HFIN]; show (np4, S4, if r4.e = 0 then msR s np4 r4 else r4) = _; rw [if_pos he])
    have hst := store_arr size_prg w5 w.heap.size _ (prgA s N (.slice sa sn sc)) (prg0_size _ _ _) (prgA_size _ _ _) (prgA_all _ _ rfl) g0
    have z9 := prgA_size s N (.slice sa sn sc)
    have HG6 := hide g0
    have HG5 := hide g1
    have HB5 := hide hb5
    clear hp5 hk5 g0 g1 hb5
    go_wp2_with (refine wpList_load_row rfl 52 _ rfl (w.heap.size + 1) rfl 52 _ (0, 0) _ (unhide HG5) Tryz.underlying52 rfl (by rw [prgA_size]; exact size_prg) ?_)
    refine bodyPost_ret (v := .agg (prgA s N (.slice sa sn sc))) (ret_prg Tryz.results21 _ _ w.heap.size _ (prgA_size _ _ _) rfl (setRow_heap _ _ _ _ _ _ (unhide HG6))) rfl ⟨⟨sa, sn, sc, rfl⟩, ?_⟩
    exact below_setRow (unhide HB5) (Nat.le_refl _) _
  · have he' : (r4.e == 0) = false := by simpa using he
    obtain ⟨⟨sa, sn, sc, rfl⟩, g0, g1, hb5⟩ := unhide FIN w4 _ _ _ (unhide HP4) (unhide HK4) (by rw [unhide HFIN]; show (np4, S4, if r4.e = 0 then msR s np4 r4 else r4) = _; rw [if_neg he])
    have hst := store_arr size_prg w4 w.heap.size _ (prgA s N (.slice sa sn sc)) (prg0_size _ _ _) (prgA_size _ _ _) (prgA_all _ _ rfl) g0
    have z9 := prgA_size s N (.slice sa sn sc)
    have HG6 := hide g0
    have HG5 := hide g1
    have HB5 := hide hb5
    clear g0 g1 hb5
    go_wp2_with (refine wpList_load_row rfl 52 _ rfl (w.heap.size + 1) rfl 52 _ (0, 0) _ (unhide HG5) Tryz.underlying52 rfl (by rw [prgA_size]; exact size_prg) ?_)
    refine bodyPost_ret (v := .agg (prgA s N (.slice sa sn sc))) (ret_prg Tryz.results21 _ _ w.heap.size _ (prgA_size _ _ _) rfl (setRow_heap _ _ _ _ _ _ (unhide HG6))) rfl ⟨⟨sa, sn, sc, rfl⟩, ?_⟩
    exact below_setRow (unhide HB5) (Nat.le_refl _) _

end Go.Proofs.YtfcflnnleadpkaaGreat

namespace Go.Proofs.YtfcflnnleadpkaaGreat
open Go.RowKit

theorem rdFin_ok {s : ByteArray} {N : Nat} (h : s.size ≤ 300) :
    (prE s N ≠ 0 → (rdFin s N).2.2.e = prE s N ∧ (rdFin s N).2.2.p = prP s N) ∧
    (prE s N = 0 → (rdFin s N).1 = (prPs s N).length ∧ ∃ j, Rd s N (prNv s N) (prPs s N) (prPs s N).length (rdFin s N).2.1 (rdFin s N).2.2 j) := by
  obtain ⟨A1, A2⟩ := rdAll_ok (s := s) (N := N) (nv := nvOf (bt s) N) (S := noS) (r := r0) rfl rfl rfl (fun _ => rfl)
  obtain ⟨j, b, D, Ps, hA⟩ : ∃ j b D Ps, prA s N = (j, b, D, Ps) := ⟨_, _, _, _, rfl⟩
  have hE : prE s N = if 300 < s.size then 1 else if b = true then 4 else if (prC s N).isSome = true then 5 else 0 := by unfold prE; rw [hA]
  have hP : prP s N = if 300 < s.size then 0 else if b = true then (j : Int) else match prC s N with | some k => (k : Int) | none => 0 := by unfold prP; rw [hA]; rfl
  have hC : prC s N = badCall (bt s) Ps.length D := by unfold prC; rw [hA]
  have hPs : prPs s N = Ps := by unfold prPs; rw [hA]
  rw [if_neg (by omega)] at hE hP
  cases b
  · rw [if_neg (by simp)] at hE hP
    obtain ⟨S', r', e1, e2, e3⟩ := A1 j D Ps rfl hA
    have hF : rdFin s N = (Ps.length, S', msR s Ps.length r') := by
      unfold rdFin
      rw [e1]
      simp only
      rw [if_pos e3.e]
    rw [hF]
    cases hc : prC s N with
    | none =>
      rw [hc] at hE
      have hm : msR s Ps.length r' = r' := by unfold msR; rw [e2, ← hC, hc]
      rw [hm, hPs]
      refine ⟨fun h => absurd (by rw [hE]; rfl) h, fun _ => ⟨rfl, j, e3⟩⟩
    | some k =>
      rw [hc] at hE hP
      have hm : msR s Ps.length r' = { r' with e := 5, p := (k : Int) } := by unfold msR; rw [e2, ← hC, hc]
      rw [hm]
      refine ⟨fun _ => ⟨by rw [hE]; rfl, by rw [hP]⟩, fun h0 => ?_⟩
      rw [hE] at h0
      cases h0
  · rw [if_pos rfl] at hE hP
    obtain ⟨q1, q2⟩ := A2 j D Ps rfl hA
    have hF : (rdFin s N).2.2 = (rdAll s (nvOf (bt s) N) N noS r0).2.2 := by
      unfold rdFin
      simp only
      rw [if_neg (by rw [q1]; omega)]
    rw [hF]
    refine ⟨fun _ => ⟨by rw [q1, hE], by rw [q2, hP]⟩, fun h0 => ?_⟩
    rw [hE] at h0
    cases h0

theorem cntV_vb {c : Nat → Int} {N : Nat} : ∀ f k j, k ≤ j → j < cntV c N f k → vb N (c j) = true := by
  intro f
  induction f with
  | zero => intro k j h1 h2; simp [cntV] at h2; omega
  | succ f ih =>
    intro k j h1 h2
    simp only [cntV] at h2
    split at h2
    · rename_i hv
      by_cases e : k = j
      · rw [← e]; exact hv
      · exact ih (k + 1) j (by omega) h2
    · omega

/-- The flow of a text that is read. -/
def mkD (o s : ByteArray) (n b : Nat) (v : Value) : FD := ⟨b, n, prNv s n, (rdFin s n).1, cl o n, s, (rdFin s n).2.1, (rdFin s n).2.2.T, v⟩
theorem mkD_env {o s : ByteArray} {n b : Nat} {v : Value} (hs : s.size ≤ 300) (hE : prE s n = 0) : dE (mkD o s n b v) = pE (cl o n) s n := by
  obtain ⟨h1, j, h2⟩ := (rdFin_ok hs).2 hE
  have hm : ((mkD o s n b v).S 0).toNat = prNv s n + 1 := by show ((rdFin s n).2.1 0).toNat = _; rw [h2.m0]; rfl
  have hP : (fun k => (mkD o s n b v).S (k + 1)) = fun k => (((prPs s n).getD k 0 : Nat) : Int) := by
    funext k
    show (rdFin s n).2.1 (k + 1) = _
    by_cases hk : k < (prPs s n).length
    · exact h2.st k hk
    · rw [h2.sz k (by omega)]
      simp [List.getD, List.getElem?_eq_none (show (prPs s n).length ≤ k by omega)]
  unfold dE
  rw [hm, hP]
  show ({ pE (cl o n) s n with nv := prNv s n, np := (rdFin s n).1, main := prNv s n + 1, P := fun k => (((prPs s n).getD k 0 : Nat) : Int) } : Env) = _
  rw [h1]
  rfl
theorem mkD_ok {o s : ByteArray} {n b : Nat} {v : Value} (hR : ReadPost o 0 0 n) (hE : prE s n = 0) : GOk (mkD o s n b v) (s.size + 1) ∧ InOrd (pE (cl o n) s n) (s.size + 1) := by
  have K := known hR hE
  obtain ⟨h1, j, h2⟩ := (rdFin_ok K.sz).2 hE
  have hEnv := mkD_env (o := o) (b := b) (v := v) K.sz hE
  have hnp : (mkD o s n b v).np = (prPs s n).length := h1
  have wm : ∀ m j, wfS (bt s) (prNv s n) n (prPs s n).length (s.size + 1) m = (j, false) → wfS (bt s) (prNv s n) n 4 (s.size + 1) m = (j, false) := fun m j h => (wfS_four (T := noP) K.np _ _ _ h).1
  refine ⟨⟨⟨K.A, K.n8, K.sz, K.nv, by rw [hnp]; exact K.np, nvOf_size s n⟩, ⟨fun k hk h63 => ?_, fun k hk h63 => ?_⟩, by rw [hEnv]; exact K.Q, ?_, ?_, fun k hk => ?_⟩, fun k hk j => ⟨fun h0 hj => ?_, fun h0 hj => ?_⟩⟩
  · have hv := cntV_vb (c := bt s) (N := n) 8 0 k (Nat.zero_le _) hk
    have hd : isDB (bt s k) n = true := by
      have h9 : (bt s k == 63 || isDB (bt s k) n) = true := hv
      rcases Bool.or_eq_true_iff.1 h9 with h | h
      · have h7 : bt s k = 63 := by simpa using h
        exact absurd h7 h63
      · exact h
    obtain ⟨d, ed, hdn⟩ := isDB_nat hd
    refine ⟨d, ed, ?_, hdn⟩
    show dgt (bt s k) n = (d : Int)
    rw [dgt_yes ((isDB_iff _ _).1 hd)]; exact ed
  · show dgt (bt s k) n < 0
    rw [show bt s k = 63 from h63]
    unfold dgt
    rw [isDB_no (by omega)]
    simp
  · show (rdFin s n).2.1 0 = (((dE (mkD o s n b v)).main : Nat) : Int)
    rw [hEnv, h2.m0]; rfl
  · rw [hEnv, hnp]
    obtain ⟨j1, w1, _, t1⟩ := h2.tm
    obtain ⟨j2, hj2⟩ := K.Q.main
    exact (wfS_four K.np _ _ _ hj2).2 t1
  · rw [hnp] at hk ⊢
    have e : ((mkD o s n b v).S (k + 1)).toNat = (prPs s n).getD k 0 := by show ((rdFin s n).2.1 (k + 1)).toNat = _; rw [h2.st k hk]; rfl
    rw [e]
    obtain ⟨j1, w1, _, t1⟩ := h2.tb k hk
    obtain ⟨m, j2, em, hj2⟩ := K.Q.proc k hk
    have em2 : (prPs s n).getD k 0 = m := by
      have h9 : (((prPs s n).getD k 0 : Nat) : Int) = (m : Int) := em
      omega
    rw [em2] at t1 ⊢
    exact (wfS_four K.np _ _ _ hj2).2 t1
  · have h9 := wm (prNv s n + 1) j hj
    have hk' : k < (prPs s n).length := hk
    exact h2.o0 j (by omega) h9
  · have hk' : k < (prPs s n).length := hk
    have h8 : wfS (bt s) (prNv s n) n (prPs s n).length (s.size + 1) ((prPs s n).getD (k - 1) 0) = (j, false) := hj
    have h9 := h2.o1 (k - 1) j (by omega) (wm _ j h8)
    rw [show k - 1 + 1 = k by omega] at h9
    exact h9

end Go.Proofs.YtfcflnnleadpkaaGreat

namespace Go.Proofs.YtfcflnnleadpkaaGreat
open Go.RowKit

/-- What 'readProgram' answers. -/
def RpAns (s : ByteArray) (N : Nat) (e : Ending) : Prop := ∃ F : Nat → Value, e = .returned (.agg (rowF F 912)) ∧ (∀ k, (F k).oneCell' = true) ∧
  ((prE s N ≠ 0 ∧ F 0 = .int .i64 (prE s N) ∧ F 1 = .int .i64 (prP s N)) ∨ (prE s N = 0 ∧ ∃ a n c, F = prgF 0 0 s N (prNv s N) (rdFin s N).1 (rdFin s N).2.1 (rdFin s N).2.2.T (.slice a n c)))
theorem rp_any (w : World) (s : ByteArray) (N : Nat) : Calls Tryz.prog 21 #[.string s, .int .i64 (N : Int)] w fun e w' => RpAns s N e ∧ Below w.heap.size w w' := by
  by_cases hs : s.size ≤ 300
  · refine (rp_ok w s N hs).mono ?_
    rintro e w' ⟨⟨a, n, c, rfl⟩, hb⟩
    refine ⟨⟨_, rfl, prgF_one rfl, ?_⟩, hb⟩
    obtain ⟨h1, h2⟩ := rdFin_ok (N := N) hs
    by_cases hE : prE s N = 0
    · right
      obtain ⟨_, j, h3⟩ := h2 hE
      exact ⟨hE, a, n, c, by rw [h3.e, h3.p]; rfl⟩
    · left
      obtain ⟨q1, q2⟩ := h1 hE
      exact ⟨hE, by rw [← q1]; rfl, by rw [← q2]; rfl⟩
  · refine (rp_long w s N (by omega)).mono ?_
    rintro e w' ⟨rfl, hb⟩
    have hE : prE s N = 1 := by unfold prE; rw [if_pos (by omega)]
    have hP : prP s N = 0 := by unfold prP; rw [if_pos (by omega)]
    exact ⟨⟨_, rfl, prgF_one rfl, Or.inl ⟨by rw [hE]; omega, by rw [hE]; rfl, by rw [hP]; rfl⟩⟩, hb⟩

theorem flw_laid {e p : Int} {L P F : Nat → Value} {V X T : Nat → Nat} {ra : Bool} :
    ((flwC e p L P V X T ra).toList.take (134 + 0) ++ (rowF F 912).toList ++ (flwC e p L P V X T ra).toList.drop (134 + 0 + (rowF F 912).toList.length)).toArray = flwC e p L F V X T ra := by
  have hl : (rowF F 912).toList.length = 912 := by simp [rowF]
  have hl2 : (flwC e p L P V X T ra).toList.length = 1063 := by simp [flwC, rowF]
  rw [hl]
  apply Array.ext_getElem?
  intro k
  rw [List.getElem?_toArray]
  have g1 : ∀ j, (flwC e p L P V X T ra).toList[j]? = if j < 1063 then some (flwF e p L P V X T ra j) else none := by
    intro j
    rw [Array.getElem?_toList]
    by_cases h : j < 1063
    · rw [if_pos h]; exact rowF_get _ _ _ h
    · rw [if_neg h, Array.getElem?_eq_none]; rw [flwC_size]; omega
  have g2 : (rowF F 912).toList[k - 134]? = if k - 134 < 912 then some (F (k - 134)) else none := by
    rw [Array.getElem?_toList]
    by_cases h : k - 134 < 912
    · rw [if_pos h]; exact rowF_get _ _ _ h
    · rw [if_neg h, Array.getElem?_eq_none]; rw [rowF_size]; omega
  have g3 : (flwC e p L F V X T ra)[k]? = if k < 1063 then some (flwF e p L F V X T ra k) else none := by
    by_cases h : k < 1063
    · rw [if_pos h]; exact rowF_get _ _ _ h
    · rw [if_neg h, Array.getElem?_eq_none]; rw [flwC_size]; omega
  rw [g3, List.append_assoc]
  have ht : ((flwC e p L P V X T ra).toList.take (134 + 0)).length = 134 := by rw [List.length_take, hl2]; rfl
  by_cases h1 : k < 134
  · rw [List.getElem?_append_left (by rw [ht]; exact h1), List.getElem?_take, if_pos (by omega), g1, if_pos (by omega), if_pos (by omega)]
    refine congrArg some ?_
    unfold flwF
    repeat' split
    all_goals first | rfl | omega
  · rw [List.getElem?_append_right (by rw [ht]; omega), ht]
    by_cases h2 : k < 1046
    · rw [List.getElem?_append_left (by rw [hl]; omega), g2, if_pos (by omega), if_pos (by omega)]
      refine congrArg some ?_
      unfold flwF
      have a0 : ¬ k = 0 := by omega
      have a1 : ¬ k = 1 := by omega
      simp only [a0, a1, h1, h2, if_false, if_true]
    · rw [List.getElem?_append_right (by rw [hl]; omega), hl, List.getElem?_drop, g1, show 134 + 0 + 912 + (k - 134 - 912) = k by omega]
      by_cases h3 : k < 1063
      · rw [if_pos h3, if_pos h3]
        refine congrArg some ?_
        unfold flwF
        have a0 : ¬ k = 0 := by omega
        have a1 : ¬ k = 1 := by omega
        simp only [a0, a1, h1, h2, if_false]
      · rw [if_neg h3, if_neg h3]
theorem store_prog (w : World) (g : Nat) {e p : Int} {L P F : Nat → Value} {V X T : Nat → Nat} {ra : Bool} (hF : ∀ k, (F k).oneCell' = true) (hg : w.heap[g]? = some (.cells (flwC e p L P V X T ra) 57 (0, 0))) :
    Sem.run Tryz.prog (storeCells ⟨g, 134, none⟩ (rowF F 912).toList) w = .ok () (w.setRow g (flwC e p L F V X T ra)) := by
  have h := run_storeCells_at Tryz.prog g 134 57 (rowF F 912).toList 0 _ w hg (by rw [flwC_size]; simp [rowF]) (fun v hv => by
    simp [rowF] at hv
    obtain ⟨k, _, rfl⟩ := hv
    exact hF k)
  rw [flw_laid] at h
  exact h

theorem flw_put {w : World} {g : Nat} {e p e' p' : Int} {L P : Nat → Value} {V X T : Nat → Nat} {ra : Bool} (hg : w.heap[g]? = some (.cells (flwC e p L P V X T ra) 57 (0, 0))) :
    ((w.setCell ⟨g, 0, none⟩ (.int .i64 e')).setCell ⟨g, 1, none⟩ (.int .i64 p')).heap[g]? = some (.cells (flwC e' p' L P V X T ra) 57 (0, 0)) := by
  rw [setCell_eq_setRow w g _ _ _ _ _ hg, flw_set0, setCell_eq_setRow _ g _ _ _ _ _ (setRow_heap w g _ _ _ _ hg), flw_set1, setRow_setRow]
  exact setRow_heap w g _ _ _ _ hg
theorem set2_other {w : World} {g k : Nat} {x y : Value} (h : k ≠ g) : ((w.setCell ⟨g, 0, none⟩ x).setCell ⟨g, 1, none⟩ y).heap[k]? = w.heap[k]? :=
  (Below.heap_setCell _ _ _ k h).trans (Below.heap_setCell w _ _ k h)

/-- What 'readFlow' answers where the order is one. -/
def RfOk (o s : ByteArray) (n : Nat) (C : Array Value) : Prop := ∃ a p : Int, CkPost o s a p n ∧ C.size = 1063 ∧ C.all (·.oneCell') = true ∧ C[0]? = some (.int .i64 a) ∧ C[1]? = some (.int .i64 p) ∧
  (a = 0 → p = 0 ∧ prE s n = 0 ∧ ∃ v st, C = flC (mkD o s n 0 v) st ∧ (∀ k, k < prNv s n → st.V k = (ckL o s n).V k) ∧ (∀ k, k < (prPs s n).length → st.X k = (ckL o s n).X k) ∧ ∀ k, k < (prPs s n).length → st.T k = (ckL o s n).T k)

set_option maxHeartbeats 4000000 in
set_option maxRecDepth 200000 in
theorem rf_good (w : World) (o s : ByteArray) (n : Nat) (hR : ReadPost o 0 0 n) :
    Calls Tryz.prog 11 #[.string o, .string s] w fun e w' => (∃ C, e = .returned (.agg C) ∧ RfOk o s n C) ∧ Below w.heap.size w w' := by
  have hz := zero_flw
  have z0 := flwC_size 0 0 L0 P0 noW noW noW false
  have HRP := hide hR
  clear hR
  go_enter Tryz.func11, Tryz.ntmps11
  go_wp2_with fail
  refine (readLevels_any _ _).mono ?_
  rintro e w1 ⟨⟨a, p, n', hr, hn, rfl⟩, hb⟩
  obtain ⟨rfl, rfl, rfl⟩ := ReadPost_uniq (unhide HRP) hr
  have hl := levF_c o n (ReadPost_p0 hr)
  have z1 := levA_size o 0 0 n
  have z2 := flwC_size 0 0 (levF o 0 0 n) P0 noW noW noW false
  have hfo := flw_lay o 0 0 n
  have c2 := flw_ge (e := 0) (p := 0) (L := levF o 0 0 n) (P := P0) (V := noW) (X := noW) (T := noW) (ra := false) 2 (.int .i64 0) hl.1
  have c3 := flw_ge (e := 0) (p := 0) (L := levF o 0 0 n) (P := P0) (V := noW) (X := noW) (T := noW) (ra := false) 3 (.int .i64 0) hl.2.1
  have c4 := flw_ge (e := 0) (p := 0) (L := levF o 0 0 n) (P := P0) (V := noW) (X := noW) (T := noW) (ra := false) 4 (.int .i64 (n : Int)) hl.2.2
  have s0 := flw_set0 (e := 0) (p := 0) (e' := 0) (L := levF o 0 0 n) (P := P0) (V := noW) (X := noW) (T := noW) (ra := false)
  have s1 := flw_set1 (e := 0) (p := 0) (p' := 0) (L := levF o 0 0 n) (P := P0) (V := noW) (X := noW) (T := noW) (ra := false)
  have c0 := flw_ge (e := 0) (p := 0) (L := levF o 0 0 n) (P := P0) (V := noW) (X := noW) (T := noW) (ra := false) 0 (.int .i64 0) rfl
  have hst := store_arr size_flw (w1.alloc (.cells (flwC 0 0 L0 P0 noW noW noW false) 57)) w1.heap.size _ (flwC 0 0 (levF o 0 0 n) P0 noW noW noW false) (flwC_size _ _ _ _ _ _ _ _) (flwC_size _ _ _ _ _ _ _ _) (flwC_all (levF_one _ _ _ _) (prgF_one rfl)) (heap_alloc_last w1 _)
  rw [World.setRow_alloc_new] at hst
  have hsz : w.heap.size < w1.heap.size := by have := hb.size; simp at this; omega
  have HG0 := hide (show (w1.alloc (.cells (flwC 0 0 (levF o 0 0 n) P0 noW noW noW false) 57)).heap[w.heap.size]? = some (.cells (flwC 0 0 L0 P0 noW noW noW false) 57) from
    (heap_alloc_old _ _ hsz).trans ((hb.block _ (by simp)).trans (heap_alloc_last w _)))
  have HG1 := hide (heap_alloc_last w1 (.cells (flwC 0 0 (levF o 0 0 n) P0 noW noW noW false) 57))
  have HB := hide (show Below w.heap.size w (w1.alloc (.cells (flwC 0 0 (levF o 0 0 n) P0 noW noW noW false) 57)) from (((Below.refl _ _).alloc (Nat.le_refl _) _).trans (hb.mono (by simp))).trans ((Below.refl _ _).alloc (by omega) _))
  clear hr hl hb
  go_wp2_with fail
  refine (rp_any _ _ _).mono ?_
  rintro e w2 ⟨⟨F, rfl, hF1, hans⟩, hb2⟩
  have HANS := hide hans
  clear hans
  have g2 := (hb2.block w1.heap.size (by simp)).trans (unhide HG1)
  have g20 := (hb2.block w.heap.size (by simp; omega)).trans (unhide HG0)
  have HB2 := hide ((unhide HB).trans (hb2.mono (by simp; omega)))
  have hst3 := store_prog w2 w1.heap.size (F := F) hF1 g2
  have z9 : (rowF F 912).size = 912 := rowF_size _ _
  have HW3 := hide (setRow_heap w2 w1.heap.size _ (flwC 0 0 (levF o 0 0 n) F noW noW noW false) _ _ g2)
  have HW30 := hide ((setRow_other w2 w1.heap.size w.heap.size (flwC 0 0 (levF o 0 0 n) F noW noW noW false) (by omega)).trans g20)
  have HB3 := hide (below_setRow (unhide HB2) (show w.heap.size ≤ w1.heap.size by omega) (flwC 0 0 (levF o 0 0 n) F noW noW noW false))
  clear hb2 g2 g20
  have q134 : (w2.setRow w1.heap.size (flwC 0 0 (levF o 0 0 n) F noW noW noW false)).cell? ⟨w1.heap.size, 134, none⟩ = some (F 0) := (rowF_cell (unhide HW3) (by omega)).trans rfl
  have q135 : (w2.setRow w1.heap.size (flwC 0 0 (levF o 0 0 n) F noW noW noW false)).cell? ⟨w1.heap.size, 135, none⟩ = some (F 1) := (rowF_cell (unhide HW3) (by omega)).trans rfl
  have q0 : (w2.setRow w1.heap.size (flwC 0 0 (levF o 0 0 n) F noW noW noW false)).cell? ⟨w1.heap.size, 0, none⟩ = some (.int .i64 0) := (rowF_cell (unhide HW3) (by omega)).trans rfl
  have q1 : (w2.setRow w1.heap.size (flwC 0 0 (levF o 0 0 n) F noW noW noW false)).cell? ⟨w1.heap.size, 1, none⟩ = some (.int .i64 0) := (rowF_cell (unhide HW3) (by omega)).trans rfl
  have y0 := frozen_of_row (w2.setRow w1.heap.size (flwC 0 0 (levF o 0 0 n) F noW noW noW false)) w1.heap.size 0 _ _ (unhide HW3)
  have y1 := frozen_of_row (w2.setRow w1.heap.size (flwC 0 0 (levF o 0 0 n) F noW noW noW false)) w1.heap.size 1 _ _ (unhide HW3)
  have HRP2 := unhide HRP
  rcases unhide HANS with ⟨hE, hF0, hFp⟩ | ⟨hE, va, vn, vc, rfl⟩
  · rw [hF0] at q134
    rw [hFp] at q135
    have he' : (prE s n == 0) = false := by simpa using hE
    have HW4 := hide (flw_put (e' := prE s n) (p' := prP s n) (unhide HW3))
    have hw40 := (set2_other (x := .int .i64 (prE s n)) (y := .int .i64 (prP s n)) (show w.heap.size ≠ w1.heap.size by omega)).trans (unhide HW30)
    have hst4 := store_arr size_flw _ w.heap.size _ (flwC (prE s n) (prP s n) (levF o 0 0 n) F noW noW noW false) (flwC_size _ _ _ _ _ _ _ _) (flwC_size _ _ _ _ _ _ _ _) (flwC_all (levF_one _ _ _ _) hF1) hw40
    have z4 := flwC_size (prE s n) (prP s n) (levF o 0 0 n) F noW noW noW false
    have HW40 := hide hw40
    have HB4 := hide (((unhide HB3).setCell (p := ⟨w1.heap.size, 0, none⟩) (show w.heap.size ≤ w1.heap.size by omega) (.int .i64 (prE s n))).setCell (p := ⟨w1.heap.size, 1, none⟩) (show w.heap.size ≤ w1.heap.size by omega) (.int .i64 (prP s n)))
    have HRF := hide (show RfOk o s n (flwC (prE s n) (prP s n) (levF o 0 0 n) F noW noW noW false) from ⟨prE s n, prP s n, Or.inr (Or.inl ⟨unhide HRP, hE, rfl, rfl⟩), flwC_size _ _ _ _ _ _ _ _, flwC_all (levF_one _ _ _ _) hF1, flwC_g 0 (by omega), flwC_g 1 (by omega), fun h => absurd h hE⟩)
    clear hw40 hF0 hFp hE
    go_wp2_with (refine wpList_load_row rfl 57 _ rfl w1.heap.size rfl 57 _ (0, 0) _ (unhide HW4) Tryz.underlying57 rfl (by rw [flwC_size]; exact size_flw) ?_)
    refine bodyPost_ret (v := .agg (flwC (prE s n) (prP s n) (levF o 0 0 n) F noW noW noW false)) (ret_flw Tryz.results11 _ _ w.heap.size _ (flwC_size _ _ _ _ _ _ _ _) rfl (setRow_heap _ _ _ _ _ _ (unhide HW40))) rfl ⟨⟨_, rfl, unhide HRF⟩, ?_⟩
    exact below_setRow (unhide HB4) (Nat.le_refl _) _
  · have K := known HRP2 hE
    obtain ⟨G, I⟩ := mkD_ok (b := w1.heap.size) (v := .slice va vn vc) HRP2 hE
    have hEnv := mkD_env (o := o) (b := w1.heap.size) (v := .slice va vn vc) K.sz hE
    have q134' : (w2.setRow w1.heap.size (flwC 0 0 (levF o 0 0 n) (prgF 0 0 s n (prNv s n) (rdFin s n).1 (rdFin s n).2.1 (rdFin s n).2.2.T (.slice va vn vc)) noW noW noW false)).cell? ⟨w1.heap.size, 134, none⟩ = some (.int .i64 0) := q134
    have q135' : (w2.setRow w1.heap.size (flwC 0 0 (levF o 0 0 n) (prgF 0 0 s n (prNv s n) (rdFin s n).1 (rdFin s n).2.1 (rdFin s n).2.2.T (.slice va vn vc)) noW noW noW false)).cell? ⟨w1.heap.size, 135, none⟩ = some (.int .i64 0) := q135
    clear q134 q135
    have HG := hide G
    have HI := hide I
    have HK := hide K
    have HEnv := hide hEnv
    have HE := hide hE
    clear G I K hEnv hE
    generalize hFF : prgF 0 0 s n (prNv s n) (rdFin s n).1 (rdFin s n).2.1 (rdFin s n).2.2.T (.slice va vn vc) = F at *
    have HFF := hide hFF
    clear hFF
    have HW4 := hide (flw_put (e' := 0) (p' := 0) (unhide HW3))
    have HW40 := hide ((set2_other (x := .int .i64 0) (y := .int .i64 0) (show w.heap.size ≠ w1.heap.size by omega)).trans (unhide HW30))
    have HB4 := hide (((unhide HB3).setCell (p := ⟨w1.heap.size, 0, none⟩) (show w.heap.size ≤ w1.heap.size by omega) (.int .i64 0)).setCell (p := ⟨w1.heap.size, 1, none⟩) (show w.heap.size ≤ w1.heap.size by omega) (.int .i64 0))
    have HFL := hide (show Fl (mkD o s n w1.heap.size (.slice va vn vc)) (((w2.setRow w1.heap.size (flwC 0 0 (levF o 0 0 n) F noW noW noW false)).setCell ⟨w1.heap.size, 0, none⟩ (.int .i64 0)).setCell ⟨w1.heap.size, 1, none⟩ (.int .i64 0)) ⟨noW, noW, noW, false, -1⟩ from by
      have h9 := unhide HW4
      have e1 : levF o 0 0 n = latF 0 0 n (cl o n) (jTo n (cl o n) n 0) (fbK (cl o n) (n - 1) : Nat) := by unfold levF; rw [if_pos rfl]
      have e2 : flwC 0 0 (levF o 0 0 n) F noW noW noW false = flC (mkD o s n w1.heap.size (.slice va vn vc)) ⟨noW, noW, noW, false, -1⟩ := by rw [e1, ← unhide HFF]; rfl
      unfold Fl
      rw [← e2]
      exact h9)
    go_wp2_with fail
    refine (fFind (unhide HG) (unhide HFL)).mono ?_
    rintro e w5 ⟨rfl, ⟨st', hf5, hl5, hra⟩, hk5⟩
    have HF5 := hide hf5
    have hsz5 : w1.heap.size < (((w2.setRow w1.heap.size (flwC 0 0 (levF o 0 0 n) F noW noW noW false)).setCell ⟨w1.heap.size, 0, none⟩ (.int .i64 0)).setCell ⟨w1.heap.size, 1, none⟩ (.int .i64 0)).heap.size := (Array.getElem?_eq_some_iff.1 (unhide HW4)).1
    have g50 := (hk5.block w.heap.size (by omega) (show w.heap.size ≠ w1.heap.size by omega)).trans (unhide HW40)
    have HB5 := hide (show Below w.heap.size w w5 from (unhide HB4).trans ⟨hk5.os, hk5.tape, hk5.output, hk5.size, fun k hk => hk5.block k (by omega) (show k ≠ w1.heap.size by omega)⟩)
    have hall : (flC (mkD o s n w1.heap.size (.slice va vn vc)) st').all (·.oneCell') = true := rowF_all (flwF_one (latF_one _ _ _ _ _ _) (prgF_one rfl))
    have hst5 := store_arr size_flw w5 w.heap.size _ (flC (mkD o s n w1.heap.size (.slice va vn vc)) st') (flwC_size _ _ _ _ _ _ _ _) (flC_size _ _) hall g50
    have z5 := flC_size (mkD o s n w1.heap.size (.slice va vn vc)) st'
    have HG50 := hide g50
    have HRF := hide (show RfOk o s n (flC (mkD o s n w1.heap.size (.slice va vn vc)) st') from by
      have K := unhide HK
      have L : LInv (pE (cl o n) s n) (s.size + 1) st' := by rw [← unhide HEnv]; exact hl5
      obtain ⟨u1, u2, u3, u4⟩ := LInv.same (E := pE (cl o n) s n) K.A K.Q (unhide HI) L hra K.low
      have u5 : st'.bad = ckB o s n := u4
      refine ⟨eB st'.bad, pB st'.bad, ?_, flC_size _ _, hall, rowF_get _ _ _ (by omega), rowF_get _ _ _ (by omega), fun h0 => ⟨?_, unhide HE, _, st', rfl, u1, u2, u3⟩⟩
      · by_cases hb : st'.bad < 0
        · have e1 : eB st'.bad = 0 := by unfold eB; rw [if_pos hb]
          have e2 : pB st'.bad = 0 := by unfold pB; rw [if_pos hb]
          rw [e1, e2]
          exact Or.inr (Or.inr (Or.inr ⟨unhide HRP, unhide HE, by rw [← u5]; exact hb, rfl, rfl⟩))
        · have e1 : eB st'.bad = 6 := by unfold eB; rw [if_neg hb]
          have e2 : pB st'.bad = st'.bad := by unfold pB; rw [if_neg hb]
          rw [e1, e2]
          exact Or.inr (Or.inr (Or.inl ⟨unhide HRP, unhide HE, by rw [← u5]; omega, rfl, u5⟩))
      · unfold eB at h0
        unfold pB
        split at h0
        · rename_i hb; rw [if_pos hb]
        · omega)
    clear hf5 hl5 hra hk5 g50 hall hsz5
    go_wp2_with (refine wpList_load_row rfl 57 _ rfl w1.heap.size rfl 57 _ (0, 0) _ (unhide HF5) Tryz.underlying57 rfl (by rw [flC_size]; exact size_flw) ?_)
    refine bodyPost_ret (v := .agg (flC (mkD o s n w1.heap.size (.slice va vn vc)) st')) (ret_flw Tryz.results11 _ _ w.heap.size _ (flC_size _ _) rfl (setRow_heap _ _ _ _ _ _ (unhide HG50))) rfl ⟨⟨_, rfl, unhide HRF⟩, ?_⟩
    exact below_setRow (unhide HB5) (Nat.le_refl _) _

end Go.Proofs.YtfcflnnleadpkaaGreat

namespace Go.Proofs.YtfcflnnleadpkaaGreat
open Go.RowKit

/-- What 'readFlow' answers. -/
def RfAns (o s : ByteArray) (e : Ending) : Prop := ∃ C, e = .returned (.agg C) ∧ ∃ (a p : Int) (n : Nat), CkPost o s a p n ∧ C.size = 1063 ∧ C.all (·.oneCell') = true ∧ C[0]? = some (.int .i64 a) ∧ C[1]? = some (.int .i64 p) ∧
  (a = 0 → p = 0 ∧ ReadPost o 0 0 n ∧ prE s n = 0 ∧ ∃ v st, C = flC (mkD o s n 0 v) st ∧ (∀ k, k < prNv s n → st.V k = (ckL o s n).V k) ∧ (∀ k, k < (prPs s n).length → st.X k = (ckL o s n).X k) ∧ ∀ k, k < (prPs s n).length → st.T k = (ckL o s n).T k)
theorem CkPost_rd {o s : ByteArray} {a p : Int} {n : Nat} (h : CkPost o s a p n) (ha : a = 0) : ReadPost o 0 0 n := by
  rcases h with ⟨_, h2⟩ | ⟨h1, _⟩ | ⟨h1, _⟩ | ⟨h1, _⟩
  · exact absurd ha h2
  · exact h1
  · exact h1
  · exact h1
theorem rf_any (w : World) (o s : ByteArray) : Calls Tryz.prog 11 #[.string o, .string s] w fun e w' => RfAns o s e ∧ Below w.heap.size w w' := by
  by_cases h : ∃ n, ReadPost o 0 0 n
  · obtain ⟨n, hn⟩ := h
    refine (rf_good w o s n hn).mono ?_
    rintro e w' ⟨⟨C, rfl, a, p, h1, h2, h3, h4, h5, h6⟩, hb⟩
    refine ⟨⟨C, rfl, a, p, n, h1, h2, h3, h4, h5, fun ha => ?_⟩, hb⟩
    obtain ⟨q1, q2, q3⟩ := h6 ha
    exact ⟨q1, hn, q2, q3⟩
  · refine (rf_order w o s (fun a p n hr ha => h ⟨n, ?_⟩)).mono ?_
    · have hp := ReadPost_p0 hr ha
      rw [ha, hp] at hr
      exact hr
    · rintro e w' ⟨⟨a, p, n, hr, rfl⟩, hb⟩
      have ha : a ≠ 0 := fun ha => h ⟨n, by
        have hp := ReadPost_p0 hr ha
        rw [ha, hp] at hr
        exact hr⟩
      exact ⟨⟨_, rfl, a, p, n, Or.inl ⟨hr, ha⟩, flwC_size _ _ _ _ _ _ _ _, flwC_all (levF_one _ _ _ _) (prgF_one rfl), flwC_g 0 (by omega), flwC_g 1 (by omega), fun h0 => absurd h0 ha⟩, hb⟩
theorem get_of? {C : Array Value} {k : Nat} {x : Value} (h : C[k]? = some x) (hk : k < C.size) : C[k] = x := by
  rw [Array.getElem?_eq_getElem hk] at h
  exact Option.some.inj h

end Go.Proofs.YtfcflnnleadpkaaGreat

namespace Go.Proofs.YtfcflnnleadpkaaGreat
open Go.RowKit

/-- What the program's own Run must come to, its events in memory of their own. -/
def RunOwn (o s : ByteArray) (inp : Nat → List Nat) (fuel : Int) (B : Nat) (e : Ending) (w' : World) : Prop :=
  ∃ (a p : Int) (n : Nat), CkPost o s a p n ∧ ((a ≠ 0 ∧ e = .returned (.tuple #[.slice none 0 0, .int .i64 0, .int .i64 a])) ∨
    (a = 0 ∧ p = 0 ∧ ¬ (0 ≤ fuel ∧ fuel ≤ 10000) ∧ e = .returned (.tuple #[.slice none 0 0, .int .i64 0, .int .i64 7])) ∨
    (a = 0 ∧ p = 0 ∧ ∃ (f : Nat) (v : Value), fuel = (f : Int) ∧ f ≤ 10000 ∧ w'.ownsRow B 85 2 v (rnR o s n inp f).1.out.length (evC (rnR o s n inp f).1.out) ∧ e = .returned (.tuple #[v, .int .i64 ((rnR o s n inp f).2 : Int), .int .i64 0])))
def HushRunO : Prop := ∀ (w : World) (o s : ByteArray) (iv : Value) (inp : Nat → List Nat) (fuel : Int), (∀ n, n ≤ 8 → InpR w iv n inp) →
  Calls Tryz.prog 4 #[.string o, .string s, iv, .int .i64 fuel] w fun e w' => RunOwn o s inp fuel w.heap.size e w' ∧ Below w.heap.size w w'

theorem HushRunO.run (H : HushRunO) : HushRun := by
  intro w o s iv inp fuel hI
  refine (H w o s iv inp fuel hI).mono ?_
  rintro e w' ⟨⟨a, p, n, hc, hans⟩, hb⟩
  refine ⟨⟨a, p, n, hc, ?_⟩, hb⟩
  rcases hans with h | h | ⟨ha, hp, f, v, hf, hf2, hown, he⟩
  · exact Or.inl h
  · exact Or.inr (Or.inl h)
  · exact Or.inr (Or.inr ⟨ha, hp, f, v, hf, hf2, SlE.own (by rw [evC_twC] at hown; exact hown), he⟩)

/-- A part of a row, by its index, is loaded whole. -/
theorem load_part {P : Program} {ops : Array Oper} {rest : List Oper} {o : Oper} {a : Act} {w : World} {Q : Exit → Act → World → Prop} (hgd : o.guard = none) (ty : TypeId) (x : Operand) (ho : o.op = .load ty x) {g off n : Nat} {f : Nat → Value} {d : TypeDesc}
    (hx : a.eval x = .pointer (some ⟨g, off, none⟩)) (hc : ∀ j, j < n → w.cell? ⟨g, off + j, none⟩ = some (f j)) (hu : P.underlying ty = some d) (hd : d.isRow = true) (hi : (P.info? ty).map (·.size) = some n)
    (h : wpList P ops Q rest (a.put o.dst (.agg (rowF f n))) w) : wpList P ops Q (o :: rest) a w := by
  refine wpList_load_mid hgd ty x ho g off hx ((List.range n).map f) d (fun j v hv => ?_) hu hd (by simpa using hi) h
  by_cases hj : j < n
  · rw [hc j hj, ← hv]; simp [hj]
  · simp [hj] at hv

theorem flC_prog {D : FD} {w : World} {st : WS} (h : Fl D w st) (j : Nat) (hj : j < 912) : w.cell? ⟨D.b, 134 + j, none⟩ = some (pgF D j) := by
  rw [rowF_cell h (by omega)]
  unfold flwF
  rw [if_neg (by omega), if_neg (by omega), if_neg (by omega), if_pos (by omega), show 134 + j - 134 = j by omega]
  rfl

set_option maxHeartbeats 1000000 in
set_option maxRecDepth 100000 in
theorem pWhole {G : RD} {F : Nat} {w : World} {ov : Value} {st : RS} (K : QK G F) (h : PAt G w ov st 0) (hi : RunI G.D.n st) (hf : st.fuel ≤ 10000) :
    Calls Tryz.prog 13 #[.pointer (some ⟨G.b, 0, none⟩)] w (PrAt G 0 (exD G F 10000 (dE G.D).main 0 st)) := by
  have HH := hide h
  have HI := hide hi
  have p0 := h.ps (j := 0) (by omega)
  rw [K.K.m0] at p0
  simp only [Nat.add_zero] at p0
  obtain ⟨j0, hj0⟩ := K.K.Q.main
  have HJ := hide (show wfS (bt G.D.s) G.D.nv G.D.n G.D.np F (dE G.D).main = (j0, false) from hj0)
  have HT := hide K.K.tm
  obtain ⟨mn, HM⟩ : ∃ mn, Hid ((dE G.D).main = mn) := ⟨_, rfl⟩
  rw [unhide HM] at p0 HJ HT
  rw [unhide HM]
  clear h hi hj0
  go_enter Tryz.func13, Tryz.ntmps13
  go_wp2_with fail
  refine (pStmt K 10000 w ov st 0 mn j0 F (unhide HH) (unhide HI) (unhide HJ) (unhide HT) (Nat.le_refl _) hf (by omega)).mono ?_
  rintro e w2 ⟨rfl, ov2, hr2⟩
  have HR2 := hide hr2
  clear hr2
  go_wp2_with fail
  go_ret
  exact ⟨rfl, ov2, unhide HR2⟩

theorem ownsRow_empty {w : World} {B g : Nat} {e : TypeId} (hg : w.heap[g]? = some (.cells #[] e (0, 0))) (hb : B ≤ g) : w.ownsRow B e 2 (.slice (some ⟨g, 0, none⟩) 0 0) 0 [] :=
  ⟨rfl, Or.inr ⟨g, 0, #[], rfl, hb, hg, Nat.le_refl _, Nat.zero_le _, rfl, rfl⟩⟩

set_option maxHeartbeats 2000000 in
set_option maxRecDepth 200000 in
theorem hushRunO_ok : HushRunO := by
  intro w o s iv inp fuel hI
  obtain ⟨ia, il, ic, rfl, _⟩ := hI 0 (by omega)
  have HIN := hide hI
  clear hI
  have hz := zero_flw
  have z0 := flwC_size 0 0 L0 P0 noW noW noW false
  go_enter Tryz.func4, Tryz.ntmps4
  go_wp2_with fail
  refine (rf_any _ _ _).mono ?_
  rintro e w1 ⟨⟨C, rfl, a, p, n, hck, hsz, hall, h0, h1, hok⟩, hb⟩
  have HCK := hide hck
  have hst := store_arr size_flw (w1.alloc (.cells (flwC 0 0 L0 P0 noW noW noW false) 57)) w1.heap.size _ C (flwC_size _ _ _ _ _ _ _ _) hsz hall (heap_alloc_last w1 _)
  rw [World.setRow_alloc_new] at hst
  have c0 := get_of? h0
  have HOK := hide hok
  have HB := hide hb
  have HALL := hide hall
  clear hck hall hok hb h1
  by_cases ha : a = 0
  · subst ha
    obtain ⟨hp, hR, hE, v, st, hC, u1, u2, u3⟩ := unhide HOK rfl
    have HP := hide hp
    have HFL := hide (show Fl (mkD o s n w1.heap.size v) (w1.alloc (.cells C 57)) st from by rw [hC]; exact heap_alloc_last w1 _)
    have HG := hide (mkD_ok (b := w1.heap.size) (v := v) hR hE).1
    have HEnv := hide (mkD_env (o := o) (b := w1.heap.size) (v := v) (known hR hE).sz hE)
    have HN8 := hide (known hR hE).n8
    have HVO : Hid (v.oneCell' = true) := by
      have h9 : C[1045]? = some v := by rw [hC]; exact (rowF_get _ _ _ (by omega)).trans rfl
      exact hide (Array.all_eq_true_iff_forall_mem.1 (unhide HALL) v (Array.mem_of_getElem? h9))
    clear hp hR hE hC u1 u2 u3
    by_cases hf : 0 ≤ fuel ∧ fuel ≤ 10000
    · obtain ⟨hf0, hf1⟩ := hf
      obtain ⟨fu, rfl⟩ : ∃ k : Nat, fuel = (k : Int) := ⟨fuel.toNat, by omega⟩
      have e1 : decide ((fu : Int) < 0) = false := by simp
      have e2 : decide ((10000 : Int) < (fu : Int)) = false := by simp; omega
      go_wp2_with (refine load_part rfl 52 _ rfl (g := w1.heap.size) (off := 134) (f := pgF (mkD o s n w1.heap.size v)) rfl (flC_prog (unhide HFL)) Tryz.underlying52 rfl size_pg ?_)
      refine (pBegin _ (pgF (mkD o s n w1.heap.size v)) (prgF_one (unhide HVO)) ia il ic fu).mono ?_
      rintro e w2 ⟨g, rfl, hg, hgb, hb2⟩
      have hsz2 : w1.heap.size + 1 ≤ w2.heap.size := by have := hb2.size; simp at this; omega
      have hgl : g < w2.heap.size := (Array.getElem?_eq_some_iff.1 hgb).1
      have hwg : w.heap.size ≤ g := by have := (unhide HB).size; simp at hg; omega
      have HB2 := hide ((unhide HB).trans (((Below.refl _ _).alloc (unhide HB).size _).trans (hb2.mono (by have := (unhide HB).size; simp; omega))))
      obtain ⟨Z0, hzr, z8⟩ : ∃ Z0 : Array Value, (∀ w, (zeroValue 60).run Tryz.prog w = .ok (.agg Z0) w) ∧ Z0.size = 932 := ⟨_, zero_rn, rnB_size _ _ _ _⟩
      have hall := rnB_one (F := pgF (mkD o s n w1.heap.size v)) (iv := .slice ia il ic) (fu := fu) (ov := .slice (some ⟨g, 0, none⟩) 0 0) (prgF_one (unhide HVO)) rfl rfl
      have z9 := rnB_size (pgF (mkD o s n w1.heap.size v)) (.slice ia il ic) fu (.slice (some ⟨g, 0, none⟩) 0 0)
      obtain ⟨A, HAD⟩ : ∃ A, Hid (rnB (pgF (mkD o s n w1.heap.size v)) (.slice ia il ic) fu (.slice (some ⟨g, 0, none⟩) 0 0) = A) := ⟨_, rfl⟩
      rw [unhide HAD] at hall z9
      rw [unhide HAD]
      have hst2 := store_arr size_rn (w2.alloc (.cells Z0 60)) w2.heap.size _ A z8 z9 hall (heap_alloc_last w2 _)
      rw [World.setRow_alloc_new] at hst2
      have HK : Hid (QK ⟨w2.heap.size, mkD o s n w1.heap.size v, .slice ia il ic, inpN n inp, w⟩ (s.size + 1)) := hide ⟨unhide HG, by show w.heap.size ≤ w2.heap.size; omega, (unhide HIN n (unhide HN8)).congr (fun d hd => inpN_in hd), fun d hd => inpN_out hd⟩
      have HPA : Hid (PAt ⟨w2.heap.size, mkD o s n w1.heap.size v, .slice ia il ic, inpN n inp, w⟩ (w2.alloc (.cells A 60)) (.slice (some ⟨g, 0, none⟩) 0 0) ⟨fun _ => 0, fun _ => 0, [], fu⟩ 0) := by
        refine hide ⟨?_, ?_, (unhide HB2).alloc (by have := (unhide HB2).size; omega) _⟩
        · rw [← unhide HAD]; exact heap_alloc_last w2 _
        · exact ownsRow_empty ((heap_alloc_old _ _ hgl).trans hgb) hwg
      have HX : Hid (exD ⟨w2.heap.size, mkD o s n w1.heap.size v, .slice ia il ic, inpN n inp, w⟩ (s.size + 1) 10000 (dE (mkD o s n w1.heap.size v)).main 0 ⟨fun _ => 0, fun _ => 0, [], fu⟩ = rnR o s n inp fu) := by
        show ecR (dE (mkD o s n w1.heap.size v)) (inpN n inp) fu = _
        rw [unhide HEnv]; rfl
      clear hall hg hgb hb2
      go_wp2_with fail
      refine (pWhole (unhide HK) (unhide HPA) (sane0 (by omega)) (show fu ≤ 10000 by omega)).mono ?_
      rintro e w3 ⟨rfl, ov3, hr3⟩
      rw [unhide HX] at hr3
      rw [unhide HX]
      have q1 : w3.cell? ⟨w2.heap.size, 931, none⟩ = some ov3 := hr3.co
      have HR3 := hide hr3
      clear hr3
      go_wp2_with fail
      go_ret3
      exact ⟨⟨0, p, n, unhide HCK, Or.inr (Or.inr ⟨rfl, unhide HP, fu, ov3, rfl, by omega, (unhide HR3).out, rfl⟩)⟩, (unhide HR3).bel⟩
    · by_cases e1 : fuel < 0
      · have e1' : decide (fuel < 0) = true := by simpa using e1
        go_wp2_with fail
        go_ret3
        exact ⟨⟨0, p, n, unhide HCK, Or.inr (Or.inl ⟨rfl, unhide HP, hf, rfl⟩)⟩, (unhide HB).trans ((Below.refl _ _).alloc (unhide HB).size _)⟩
      · have e1' : decide (fuel < 0) = false := by simpa using e1
        have e2' : decide ((10000 : Int) < fuel) = true := by simp; omega
        go_wp2_with fail
        go_ret3
        exact ⟨⟨0, p, n, unhide HCK, Or.inr (Or.inl ⟨rfl, unhide HP, hf, rfl⟩)⟩, (unhide HB).trans ((Below.refl _ _).alloc (unhide HB).size _)⟩
  · have ha' : (a != 0) = true := by simpa using ha
    go_wp2_with fail
    go_quiet (fail)
    go_wp2_with fail
    go_ret3
    exact ⟨⟨a, p, n, unhide HCK, Or.inl ⟨ha, rfl⟩⟩, below_drewN' ((unhide HB).trans ((Below.refl _ _).alloc (unhide HB).size _)) _⟩

theorem hushRun_ok : HushRun := hushRunO_ok.run

end Go.Proofs.YtfcflnnleadpkaaGreat

namespace Go.Proofs.YtfcflnnleadpkaaGreat
open Go

section
variable {P : Program} {ops : Array Oper} {Q : Exit → Act → World → Prop} {md : Region.Mode} {S : World → Prop} {m i j : Nat} {oi om : Oper} {v : Value}

/-- S, as long as the operation m is still to come. -/
def Till (S : World → Prop) (m : Nat) (L : Array Bool) (w : World) : Prop := L.getD m true = false → S w
/-- Every order, where behind each operation S holds till m has come. -/
def anyT (P : Program) (md : Region.Mode) (ops : Array Oper) (Q : Exit → Act → World → Prop) (S : World → Prop) (m : Nat) : Nat → Array Bool → Act → World → Prop
  | 0 => fun L a w => Region.ready md ops L = [] ∧ Q .normal a w
  | n + 1 => fun L a w => (Region.ready md ops L = [] → Q .normal a w) ∧
      ∀ k ∈ Region.ready md ops L, wpOp P ops Q k (fun a' w' => Till S m (L.setIfInBounds k true) w' ∧ anyT P md ops Q S m n (L.setIfInBounds k true) a' w') a w
theorem anyT_any (n : Nat) : ∀ (L : Array Bool) (a : Act) (w : World), anyT P md ops Q S m n L a w → wpAny P md ops Q n L a w := by
  induction n with
  | zero => exact fun _ _ _ h => h
  | succ n ih => exact fun L a w h => ⟨h.1, fun k hk => wpOp_mono (fun a' w' h' => ih _ a' w' h'.2) (h.2 k hk)⟩

/-- Of two that may come up neither waits for the other. -/
theorem ready_free {L : Array Bool} {oj : Oper} (hi : i ∈ Region.ready md ops L) (hj : j ∈ Region.ready md ops L) (hoj : ops[j]? = some oj) : ∀ e ∈ oj.after, Region.binds md e = true → e.on ≠ i := by
  intro e he hb heq
  obtain ⟨_, oj', hoj', hall⟩ := mem_ready.1 hj
  obtain rfl : oj = oj' := by rw [hoj] at hoj'; exact Option.some.inj hoj'
  have h1 := hall e he hb
  have h0 := (mem_ready.1 hi).1
  rw [heq] at h1
  by_cases hlt : i < L.size
  · simp [hlt] at h0 h1
    rw [h0] at h1
    cases h1
  · simp [Array.getElem?_eq_none (by omega : L.size ≤ i)] at h1

/-- What the operation i asks for to be taken ahead of all that may come up: m waits for it. -/
structure Ahead (md : Region.Mode) (ops : Array Oper) (m i : Nat) (oi om : Oper) : Prop where
  hi : ops[i]? = some oi
  hm : ops[m]? = some om
  ne : i ≠ m
  wait : ∃ e ∈ om.after, Region.binds md e = true ∧ e.on = i
  sel : ∀ (j : Nat) (o : Oper) cs b, ops[j]? = some o → o.op ≠ .select cs b
def Apart (md : Region.Mode) (ops : Array Oper) (L : Array Bool) (i : Nat) (oi : Oper) : Prop :=
  ∀ j oj, ops[j]? = some oj → j ≠ i → L.getD j true = false → (∀ e ∈ oj.after, Region.binds md e = true → e.on ≠ i) → oi.apart ops oj = true
theorem Apart.next {L : Array Bool} (h : Apart md ops L i oi) (hj : L.getD j true = false) : Apart md ops (L.setIfInBounds j true) i oi := by
  intro k ok hk hki hun hno
  refine h k ok hk hki ?_ hno
  by_cases e : j = k
  · rw [← e]; exact hj
  · rwa [getD_set_ne true e] at hun
theorem Ahead.take (A : Ahead md ops m i oi om) (hQ : ∀ c a w, Q (.panic c) (a.put oi.dst v) w → Q (.panic c) a w) (n : Nat) : ∀ (L : Array Bool) (a : Act) (w : World), Apart md ops L i oi → i ∈ Region.ready md ops L → L.getD m true = false →
    YieldsIf P ops S oi v a → S w → anyT P md ops Q S m n (L.setIfInBounds i true) (a.put oi.dst v) w → anyT P md ops Q S m (n + 1) L a w := by
  induction n with
  | zero =>
    intro L a w _ hr _ hy hS H
    refine ⟨fun e => absurd hr (by rw [e]; exact List.not_mem_nil), fun j hj => ?_⟩
    by_cases hji : j = i
    · rw [hji]; exact hy.wpOp A.hi hS ⟨fun _ => hS, H⟩
    · exact absurd (ready_mono hj hji) (by rw [H.1]; exact List.not_mem_nil)
  | succ n ih =>
    intro L a w hap hr hm hy hS H
    refine ⟨fun e => absurd hr (by rw [e]; exact List.not_mem_nil), fun j hj => ?_⟩
    by_cases hji : j = i
    · rw [hji]; exact hy.wpOp A.hi hS ⟨fun _ => hS, H⟩
    obtain ⟨hjL, oj, hoj, _⟩ := mem_ready.1 hj
    have hfree := ready_free hr hj hoj
    have hjm : j ≠ m := by
      rintro rfl
      obtain rfl : om = oj := by have := A.hm; rw [hoj] at this; exact (Option.some.inj this).symm
      obtain ⟨e, he, hb, hon⟩ := A.wait
      exact hfree e he hb hon
    have mL : (L.setIfInBounds j true).getD m true = false := by rw [getD_set_ne true hjm]; exact hm
    have mLL : ((L.setIfInBounds i true).setIfInBounds j true).getD m true = false := by rw [getD_set_ne true hjm, getD_set_ne true A.ne]; exact hm
    have step := wpOp_putIf hoj (hap j oj hoj hji hjL hfree) (fun cs b => A.sel i oi cs b A.hi) (fun cs b => A.sel j oj cs b hoj) hQ hy (H.2 j (ready_mono hj hji))
    refine wpOp_mono (fun a' w' h3 => ?_) step
    have hS' := h3.2.1 mLL
    refine ⟨fun _ => hS', ih _ a' w' (hap.next hjL) (ready_mono hr (Ne.symm hji)) mL h3.1 hS' ?_⟩
    have h4 := h3.2.2
    rwa [Array.setIfInBounds_comm _ _ (Ne.symm hji)] at h4
end

end Go.Proofs.YtfcflnnleadpkaaGreat

namespace Go.Proofs.YtfcflnnleadpkaaGreat
open Go Go.RowKit

section
variable {P : Program} {ops : Array Oper} {Q : Exit → Act → World → Prop} {md : Region.Mode} {S : World → Prop} {m i : Nat} {oi om : Oper} {v : Value} {fuel : Nat} {L : Array Bool} {a : Act} {w : World}

/-- The number i is taken ahead, m waiting for it. -/
theorem anyT_take (hi : ops[i]? = some oi) (hm : ops[m]? = some om) (ne : i ≠ m) (hw : om.after.any (fun e => Region.binds md e && e.on == i) = true) (hs : Region.noSelect ops = true) (hf : Region.free md ops L i = true) (hr : (Region.ready md ops L).contains i = true) (hL : L.getD m true = false)
    (hQ : ∀ c a w, Q (.panic c) (a.put oi.dst v) w → Q (.panic c) a w) (hy : YieldsIf P ops S oi v a) (hS : S w) (h : anyT P md ops Q S m fuel (L.setIfInBounds i true) (a.put oi.dst v) w) : anyT P md ops Q S m (fuel + 1) L a w := by
  have A : Ahead md ops m i oi om := ⟨hi, hm, ne, by
    obtain ⟨e, he, h2⟩ := Array.any_eq_true'.1 hw
    simp only [Bool.and_eq_true, beq_iff_eq] at h2
    exact ⟨e, he, h2.1, h2.2⟩, Region.noSelect_spec hs⟩
  exact A.take hQ fuel L a w (Region.free_spec hi hf) (by simpa using hr) hL hy hS h
/-- The same, what it writes and what is listed then written out. -/
theorem anyT_takeD {d : Option Tmp} {L' : Array Bool} (hi : ops[i]? = some oi) (hm : ops[m]? = some om) (ne : i ≠ m) (hw : om.after.any (fun e => Region.binds md e && e.on == i) = true) (hs : Region.noSelect ops = true) (hf : Region.free md ops L i = true) (hr : (Region.ready md ops L).contains i = true) (hL : L.getD m true = false)
    (hd : oi.dst = d) (hL' : L.setIfInBounds i true = L') (hQ : ∀ c a w, Q (.panic c) (a.put d v) w → Q (.panic c) a w) (hy : YieldsIf P ops S oi v a) (hS : S w) (h : anyT P md ops Q S m fuel L' (a.put d v) w) : anyT P md ops Q S m (fuel + 1) L a w := by
  subst hd hL'
  exact anyT_take hi hm ne hw hs hf hr hL hQ hy hS h
/-- What yields in whatever world is taken ahead, whoever waits for it. -/
theorem anyT_free (hi : ops[i]? = some oi) (ne : i ≠ m) (sel : ∀ (j : Nat) (o : Oper) cs b, ops[j]? = some o → o.op ≠ .select cs b) (hQ : ∀ c a w, Q (.panic c) (a.put oi.dst v) w → Q (.panic c) a w) (n : Nat) : ∀ (L : Array Bool) (a : Act) (w : World), Apart md ops L i oi → i ∈ Region.ready md ops L →
    YieldsIf P ops (fun _ => True) oi v a → Till S m L w → anyT P md ops Q S m n (L.setIfInBounds i true) (a.put oi.dst v) w → anyT P md ops Q S m (n + 1) L a w := by
  induction n with
  | zero =>
    intro L a w _ hr hy hS H
    refine ⟨fun e => absurd hr (by rw [e]; exact List.not_mem_nil), fun j hj => ?_⟩
    by_cases hji : j = i
    · rw [hji]; exact hy.wpOp hi trivial ⟨fun h => hS (by rwa [getD_set_ne true ne] at h), H⟩
    · exact absurd (ready_mono hj hji) (by rw [H.1]; exact List.not_mem_nil)
  | succ n ih =>
    intro L a w hap hr hy hS H
    refine ⟨fun e => absurd hr (by rw [e]; exact List.not_mem_nil), fun j hj => ?_⟩
    by_cases hji : j = i
    · rw [hji]; exact hy.wpOp hi trivial ⟨fun h => hS (by rwa [getD_set_ne true ne] at h), H⟩
    obtain ⟨hjL, oj, hoj, _⟩ := mem_ready.1 hj
    have hfree := ready_free hr hj hoj
    have step := wpOp_putIf hoj (hap j oj hoj hji hjL hfree) (fun cs b => sel i oi cs b hi) (fun cs b => sel j oj cs b hoj) hQ hy (H.2 j (ready_mono hj hji))
    refine wpOp_mono (fun a' w' h3 => ?_) step
    have hT : Till S m (L.setIfInBounds j true) w' := by
      intro hm
      refine h3.2.1 ?_
      rw [Array.setIfInBounds_comm _ _ (Ne.symm hji), getD_set_ne true ne]
      exact hm
    refine ⟨hT, ih _ a' w' (hap.next hjL) (ready_mono hr (Ne.symm hji)) h3.1 hT ?_⟩
    have h4 := h3.2.2
    rwa [Array.setIfInBounds_comm _ _ (Ne.symm hji)] at h4
theorem anyT_freeD {d : Option Tmp} {L' : Array Bool} (hi : ops[i]? = some oi) (ne : i ≠ m) (hs : Region.noSelect ops = true) (hf : Region.free md ops L i = true) (hr : (Region.ready md ops L).contains i = true)
    (hd : oi.dst = d) (hL' : L.setIfInBounds i true = L') (hQ : ∀ c a w, Q (.panic c) (a.put d v) w → Q (.panic c) a w) (hy : YieldsIf P ops (fun _ => True) oi v a) (hS : S w) (h : anyT P md ops Q S m fuel L' (a.put d v) w) : anyT P md ops Q S m (fuel + 1) L a w := by
  subst hd hL'
  exact anyT_free hi ne (Region.noSelect_spec hs) hQ fuel L a w (Region.free_spec hi hf) (by simpa using hr) hy (fun _ => hS) h
/-- One alone may come up. -/
theorem anyT_one {o : Oper} {L' : Array Bool} (hr : Region.ready md ops L = [i]) (ho : ops[i]? = some o) (hL' : L.setIfInBounds i true = L')
    (h : ∀ K' : Act → World → Prop, Hid (∀ a w, Till S m L' w → anyT P md ops Q S m fuel L' a w → K' a w) → if Region.wanted o (yielded ops a.tmps) = true then Oper.wp P o a w K' Q else K' (a.put o.dst undef) w) : anyT P md ops Q S m (fuel + 1) L a w := by
  subst hL'
  refine ⟨fun h0 => absurd (hr.symm.trans h0) (by simp), fun k hk => ?_⟩
  rw [hr] at hk
  simp only [List.mem_singleton] at hk
  subst hk
  exact wpOp_step ho (fun K' hK => h K' (hide (fun a w h1 h2 => hK a w ⟨h1, h2⟩)))
theorem anyT_done (hr : Region.ready md ops L = []) (h : Q .normal a w) : ∀ fuel, anyT P md ops Q S m fuel L a w
  | 0 => ⟨hr, h⟩
  | _ + 1 => ⟨fun _ => h, by rw [hr]; simp⟩
theorem anyT_begin {id n : Nat} {L : Array Bool} (hm : P.follows .mixedOrders = true) (hn : ops.size = n) (hL : Array.replicate n false = L) (h : anyT P .any ops Q S m n L a w.drew) : (Code.region id ops true).wp P Q a w := by
  subst hn hL
  exact wp_region_any hm (anyT_any _ _ _ _ h)
end

end Go.Proofs.YtfcflnnleadpkaaGreat

namespace Go.Proofs.YtfcflnnleadpkaaGreat
open Go.RowKit

/-- What the loads of a statement that puts out read. -/
def SX (G : REnv) (ov : Value) (w' : World) : Prop := w'.cell? ⟨G.rb, 0, none⟩ = some (.pointer (some ⟨G.E.pb, 0, none⟩)) ∧ w'.cell? ⟨G.rb, 4, none⟩ = some ov ∧ w'.cell? ⟨G.E.pb, 1, none⟩ = some (.string G.E.s) ∧ w'.cell? ⟨G.E.pb, 0, none⟩ = some (.pointer (some ⟨G.E.ob, 0, none⟩)) ∧ w'.cell? ⟨G.E.ob, 0, none⟩ = some (.int .i64 (G.E.n : Int))
theorem info_event : (Tryz.prog.info? 84).map (fun i => (i.zero, i.size, i.bytes)) = some (some (.agg #[.int .i64 0, .int .i64 0]), 2, 16) := by kernel_rfl

variable {G : REnv} {F : Nat} {w : World} {ov : Value} {st : RS} {k : Nat}

set_option maxHeartbeats 20000000 in
set_option maxRecDepth 10000 in
theorem simpleOut_any (K : RK G F) (h : RAt G w ov st k) (hi : RunI G.E.n st) {i j f : Nat} (hc : bt G.E.s i = 111) (hv : isDB (bt G.E.s (i + 1)) G.E.n = true) (hs : scE (bt G.E.s) G.E.nv f (i + 2) = (j, false)) :
    Calls Tryz.prog 34 #[.pointer (some ⟨G.rb, 0, none⟩), .int .i64 (i : Int)] w fun e w' => e = .returned (.int .i64 ((outW st (bt G.E.s (i + 1) - 48).toNat (evE (bt G.E.s) st.V f (i + 2))).2 : Int)) ∧ ∃ ov', RAt G w' ov' (outW st (bt G.E.s (i + 1) - 48).toNat (evE (bt G.E.s) st.V f (i + 2))).1 k := by
  have HH := hide h
  have HV := hide hi.sane.V
  have HS := hide hs
  have hol := hi.out
  obtain ⟨d, ed, hdn⟩ := isDB_nat hv
  have hi1 := isDB_lt hv
  have hi0 : i < G.E.s.size := by omega
  have hb0 := bt_eq G.E.s i hi0
  have hb1 := bt_eq G.E.s (i + 1) hi1
  rw [hc] at hb0
  have ⟨hbb0, hbb1⟩ := bt_bd G.E.s (i + 1)
  have HD := hide (show dgt (bt G.E.s (i + 1)) G.E.n = (d : Int) by unfold dgt; rw [hv]; exact ed)
  rw [ed]
  have hi' : (i : Int) < (G.E.s.size : Int) := by omega
  have hi1' : (i : Int) + 1 < (G.E.s.size : Int) := by omega
  have hsz := K.sz
  have hwr : IntKind.i64.wrap ((i : Int) + 1) = (i : Int) + 1 := wrap_i64_id _ (by omega) (by omega)
  have htn : ((i : Int) + 1).toNat = i + 1 := by omega
  have h0i : (0 : Int) ≤ (i : Int) + 1 := by omega
  obtain ⟨c1, hc1⟩ : ∃ c1, bt G.E.s (i + 1) = c1 := ⟨_, rfl⟩
  rw [hc1] at hb1 hbb0 hbb1 HD
  clear h hi hs hv hc ed hc1
  cases he : evE (bt G.E.s) st.V f (i + 2) with
  | none =>
    have HE := hide he
    show Calls _ _ _ _ fun e w' => e = .returned (.int .i64 ((2 : Nat) : Int)) ∧ ∃ ov', RAt G w' ov' st k
    clear he
    go_enter Tryz.func34, Tryz.ntmps34
    go_wp2_with fail
    rw [show (i : Int) + 2 = ((i + 2 : Nat) : Int) by omega]
    refine (rexpr_any K.n1 K.sz K.nv K.P f _ ov st k _ j (unhide HH) (unhide HV) (unhide HS)).mono ?_
    rintro e w1 ⟨rfl, q1, rfl⟩
    rw [unhide HE]
    simp only [tupV]
    go_wp2_with fail
    go_ret
    exact ⟨rfl, ov, (unhide HH).drewN q1⟩
  | some y =>
    have HE := hide he
    show Calls _ _ _ _ fun e w' => e = .returned (.int .i64 ((1 : Nat) : Int)) ∧ ∃ ov', RAt G w' ov' { st with out := st.out ++ [(d, y)] } k
    clear he
    go_enter Tryz.func34, Tryz.ntmps34
    go_wp2_with fail
    rw [show (i : Int) + 2 = ((i + 2 : Nat) : Int) by omega]
    refine (rexpr_any K.n1 K.sz K.nv K.P f _ ov st k _ j (unhide HH) (unhide HV) (unhide HS)).mono ?_
    rintro e w1 ⟨rfl, q1, rfl⟩
    rw [unhide HE]
    simp only [tupV]
    obtain ⟨W, HW⟩ : ∃ W, Hid (w.drewN q1 = W) := ⟨_, rfl⟩
    rw [unhide HW]
    have HHW : Hid (RAt G W ov st k) := by rw [← unhide HW]; exact (unhide HH).drewN q1
    have p0 := (unhide HHW).c0
    have p4 := (unhide HHW).c4
    have z4 := (unhide HHW).fz 4
    have PW := K.P.below K.n1 (unhide HHW).bel
    have pS := PW.cS
    have pO := PW.cO
    have pN := PW.ord.cn
    obtain ⟨i0, hi0, hz0, hz1, hz2⟩ := info_parts info_event
    have HI := hide (And.intro hi0 (And.intro hz0 (And.intro hz1 hz2)))
    clear hi0 hz0 hz1 hz2
    have HHV := hide ((unhide HHW).drewN 1)
    have PV := K.P.below K.n1 (unhide HHV).bel
    have hSV : SX G ov W.drew := ⟨(unhide HHV).c0, (unhide HHV).c4, PV.cS, PV.cO, PV.ord.cn⟩
    clear PV
    go_wp2_with fail
    refine anyT_begin (S := SX G ov) (m := 32) (n := 33) (L := #[false, false, false, false, false, false, false, false, false, false, false, false, false, false, false, false, false, false, false, false, false, false, false, false, false, false, false, false, false, false, false, false, false]) (by kernel_rfl) (by kernel_rfl) (by kernel_rfl) ?_
    obtain ⟨V, HV⟩ : ∃ V, Hid (W.drew = V) := ⟨_, rfl⟩
    rw [unhide HV] at hSV
    rw [unhide HV]
    have HHV : Hid (RAt G V ov st k) := by rw [← unhide HV]; exact HHV
    clear p0 p4 z4 PW pS pO pN
    refine anyT_takeD (i := 0) (m := 32) (d := some 44) (L' := #[true, false, false, false, false, false, false, false, false, false, false, false, false, false, false, false, false, false, false, false, false, false, false, false, false, false, false, false, false, false, false, false, false]) (v := ?tv0) rfl rfl (by decide) (by kernel_rfl) (by kernel_rfl) (by kernel_rfl) (by kernel_rfl) (by kernel_rfl) (by kernel_rfl) (by kernel_rfl) (fun _ _ _ h => h) (Or.inl ⟨by rfl, ?ty0⟩) hSV ?tr0
    case ty0 =>
      intro w' hw'
      obtain ⟨s0, s4, sS, sO, sN⟩ := hw'
      go_simp
      try with_reducible rfl
    simp only [Act.put, List.setIfInBounds_toArray, List.set_cons_zero, List.set_cons_succ]
    refine anyT_takeD (i := 1) (m := 32) (d := some 45) (L' := #[true, true, false, false, false, false, false, false, false, false, false, false, false, false, false, false, false, false, false, false, false, false, false, false, false, false, false, false, false, false, false, false, false]) (v := ?tv1) rfl rfl (by decide) (by kernel_rfl) (by kernel_rfl) (by kernel_rfl) (by kernel_rfl) (by kernel_rfl) (by kernel_rfl) (by kernel_rfl) (fun _ _ _ h => h) (Or.inl ⟨by rfl, ?ty1⟩) hSV ?tr1
    case ty1 =>
      intro w' hw'
      obtain ⟨s0, s4, sS, sO, sN⟩ := hw'
      go_simp
      try with_reducible rfl
    simp only [Act.put, List.setIfInBounds_toArray, List.set_cons_zero, List.set_cons_succ]
    refine anyT_takeD (i := 2) (m := 32) (d := some 46) (L' := #[true, true, true, false, false, false, false, false, false, false, false, false, false, false, false, false, false, false, false, false, false, false, false, false, false, false, false, false, false, false, false, false, false]) (v := ?tv2) rfl rfl (by decide) (by kernel_rfl) (by kernel_rfl) (by kernel_rfl) (by kernel_rfl) (by kernel_rfl) (by kernel_rfl) (by kernel_rfl) (fun _ _ _ h => h) (Or.inl ⟨by rfl, ?ty2⟩) hSV ?tr2
    case ty2 =>
      intro w' hw'
      obtain ⟨s0, s4, sS, sO, sN⟩ := hw'
      go_simp
      try with_reducible rfl
    simp only [Act.put, List.setIfInBounds_toArray, List.set_cons_zero, List.set_cons_succ]
    refine anyT_takeD (i := 3) (m := 32) (d := some 47) (L' := #[true, true, true, true, false, false, false, false, false, false, false, false, false, false, false, false, false, false, false, false, false, false, false, false, false, false, false, false, false, false, false, false, false]) (v := ?tv3) rfl rfl (by decide) (by kernel_rfl) (by kernel_rfl) (by kernel_rfl) (by kernel_rfl) (by kernel_rfl) (by kernel_rfl) (by kernel_rfl) (fun _ _ _ h => h) (Or.inl ⟨by rfl, ?ty3⟩) hSV ?tr3
    case ty3 =>
      intro w' hw'
      obtain ⟨s0, s4, sS, sO, sN⟩ := hw'
      go_simp
      try with_reducible rfl
    simp only [Act.put, List.setIfInBounds_toArray, List.set_cons_zero, List.set_cons_succ]
    refine anyT_takeD (i := 4) (m := 32) (d := some 48) (L' := #[true, true, true, true, true, false, false, false, false, false, false, false, false, false, false, false, false, false, false, false, false, false, false, false, false, false, false, false, false, false, false, false, false]) (v := ?tv4) rfl rfl (by decide) (by kernel_rfl) (by kernel_rfl) (by kernel_rfl) (by kernel_rfl) (by kernel_rfl) (by kernel_rfl) (by kernel_rfl) (fun _ _ _ h => h) (Or.inl ⟨by rfl, ?ty4⟩) hSV ?tr4
    case ty4 =>
      intro w' hw'
      obtain ⟨s0, s4, sS, sO, sN⟩ := hw'
      go_simp
      try with_reducible rfl
    simp only [Act.put, List.setIfInBounds_toArray, List.set_cons_zero, List.set_cons_succ]
    refine anyT_takeD (i := 5) (m := 32) (d := some 49) (L' := #[true, true, true, true, true, true, false, false, false, false, false, false, false, false, false, false, false, false, false, false, false, false, false, false, false, false, false, false, false, false, false, false, false]) (v := ?tv5) rfl rfl (by decide) (by kernel_rfl) (by kernel_rfl) (by kernel_rfl) (by kernel_rfl) (by kernel_rfl) (by kernel_rfl) (by kernel_rfl) (fun _ _ _ h => h) (Or.inl ⟨by rfl, ?ty5⟩) hSV ?tr5
    case ty5 =>
      intro w' hw'
      obtain ⟨s0, s4, sS, sO, sN⟩ := hw'
      go_simp
      try with_reducible rfl
    simp only [Act.put, List.setIfInBounds_toArray, List.set_cons_zero, List.set_cons_succ]
    refine anyT_takeD (i := 6) (m := 32) (d := some 50) (L' := #[true, true, true, true, true, true, true, false, false, false, false, false, false, false, false, false, false, false, false, false, false, false, false, false, false, false, false, false, false, false, false, false, false]) (v := ?tv6) rfl rfl (by decide) (by kernel_rfl) (by kernel_rfl) (by kernel_rfl) (by kernel_rfl) (by kernel_rfl) (by kernel_rfl) (by kernel_rfl) (fun _ _ _ h => h) (Or.inl ⟨by rfl, ?ty6⟩) hSV ?tr6
    case ty6 =>
      intro w' hw'
      obtain ⟨s0, s4, sS, sO, sN⟩ := hw'
      go_simp
      try with_reducible rfl
    simp only [Act.put, List.setIfInBounds_toArray, List.set_cons_zero, List.set_cons_succ]
    refine anyT_takeD (i := 7) (m := 32) (d := some 51) (L' := #[true, true, true, true, true, true, true, true, false, false, false, false, false, false, false, false, false, false, false, false, false, false, false, false, false, false, false, false, false, false, false, false, false]) (v := ?tv7) rfl rfl (by decide) (by kernel_rfl) (by kernel_rfl) (by kernel_rfl) (by kernel_rfl) (by kernel_rfl) (by kernel_rfl) (by kernel_rfl) (fun _ _ _ h => h) (Or.inl ⟨by rfl, ?ty7⟩) hSV ?tr7
    case ty7 =>
      intro w' hw'
      obtain ⟨s0, s4, sS, sO, sN⟩ := hw'
      go_simp
      try with_reducible rfl
    simp only [Act.put, List.setIfInBounds_toArray, List.set_cons_zero, List.set_cons_succ]
    refine anyT_takeD (i := 8) (m := 32) (d := some 52) (L' := #[true, true, true, true, true, true, true, true, true, false, false, false, false, false, false, false, false, false, false, false, false, false, false, false, false, false, false, false, false, false, false, false, false]) (v := ?tv8) rfl rfl (by decide) (by kernel_rfl) (by kernel_rfl) (by kernel_rfl) (by kernel_rfl) (by kernel_rfl) (by kernel_rfl) (by kernel_rfl) (fun _ _ _ h => h) (Or.inl ⟨by rfl, ?ty8⟩) hSV ?tr8
    case ty8 =>
      intro w' hw'
      obtain ⟨s0, s4, sS, sO, sN⟩ := hw'
      go_simp
      try with_reducible rfl
    simp only [Act.put, List.setIfInBounds_toArray, List.set_cons_zero, List.set_cons_succ]
    refine anyT_takeD (i := 9) (m := 32) (d := some 53) (L' := #[true, true, true, true, true, true, true, true, true, true, false, false, false, false, false, false, false, false, false, false, false, false, false, false, false, false, false, false, false, false, false, false, false]) (v := ?tv9) rfl rfl (by decide) (by kernel_rfl) (by kernel_rfl) (by kernel_rfl) (by kernel_rfl) (by kernel_rfl) (by kernel_rfl) (by kernel_rfl) (fun _ _ _ h => h) (Or.inl ⟨by rfl, ?ty9⟩) hSV ?tr9
    case ty9 =>
      intro w' hw'
      obtain ⟨s0, s4, sS, sO, sN⟩ := hw'
      go_simp
      try with_reducible rfl
    simp only [Act.put, List.setIfInBounds_toArray, List.set_cons_zero, List.set_cons_succ]
    refine anyT_takeD (i := 10) (m := 32) (d := some 54) (L' := #[true, true, true, true, true, true, true, true, true, true, true, false, false, false, false, false, false, false, false, false, false, false, false, false, false, false, false, false, false, false, false, false, false]) (v := ?tv10) rfl rfl (by decide) (by kernel_rfl) (by kernel_rfl) (by kernel_rfl) (by kernel_rfl) (by kernel_rfl) (by kernel_rfl) (by kernel_rfl) (fun _ _ _ h => h) (Or.inl ⟨by rfl, ?ty10⟩) hSV ?tr10
    case ty10 =>
      intro w' hw'
      obtain ⟨s0, s4, sS, sO, sN⟩ := hw'
      go_simp
      try with_reducible rfl
    simp only [Act.put, List.setIfInBounds_toArray, List.set_cons_zero, List.set_cons_succ]
    refine anyT_takeD (i := 11) (m := 32) (d := some 55) (L' := #[true, true, true, true, true, true, true, true, true, true, true, true, false, false, false, false, false, false, false, false, false, false, false, false, false, false, false, false, false, false, false, false, false]) (v := ?tv11) rfl rfl (by decide) (by kernel_rfl) (by kernel_rfl) (by kernel_rfl) (by kernel_rfl) (by kernel_rfl) (by kernel_rfl) (by kernel_rfl) (fun _ _ _ h => h) (Or.inl ⟨by rfl, ?ty11⟩) hSV ?tr11
    case ty11 =>
      intro w' hw'
      obtain ⟨s0, s4, sS, sO, sN⟩ := hw'
      go_simp
      try with_reducible rfl
    simp only [Act.put, List.setIfInBounds_toArray, List.set_cons_zero, List.set_cons_succ]
    refine anyT_takeD (i := 12) (m := 32) (d := some 56) (L' := #[true, true, true, true, true, true, true, true, true, true, true, true, true, false, false, false, false, false, false, false, false, false, false, false, false, false, false, false, false, false, false, false, false]) (v := ?tv12) rfl rfl (by decide) (by kernel_rfl) (by kernel_rfl) (by kernel_rfl) (by kernel_rfl) (by kernel_rfl) (by kernel_rfl) (by kernel_rfl) (fun _ _ _ h => h) (Or.inl ⟨by rfl, ?ty12⟩) hSV ?tr12
    case ty12 =>
      intro w' hw'
      obtain ⟨s0, s4, sS, sO, sN⟩ := hw'
      go_simp
      try with_reducible rfl
    simp only [Act.put, List.setIfInBounds_toArray, List.set_cons_zero, List.set_cons_succ]
    refine anyT_takeD (i := 13) (m := 32) (d := some 57) (L' := #[true, true, true, true, true, true, true, true, true, true, true, true, true, true, false, false, false, false, false, false, false, false, false, false, false, false, false, false, false, false, false, false, false]) (v := ?tv13) rfl rfl (by decide) (by kernel_rfl) (by kernel_rfl) (by kernel_rfl) (by kernel_rfl) (by kernel_rfl) (by kernel_rfl) (by kernel_rfl) (fun _ _ _ h => h) (Or.inl ⟨by rfl, ?ty13⟩) hSV ?tr13
    case ty13 =>
      intro w' hw'
      obtain ⟨s0, s4, sS, sO, sN⟩ := hw'
      go_simp
      try with_reducible rfl
    simp only [Act.put, List.setIfInBounds_toArray, List.set_cons_zero, List.set_cons_succ]
    refine anyT_takeD (i := 14) (m := 32) (d := some 58) (L' := #[true, true, true, true, true, true, true, true, true, true, true, true, true, true, true, false, false, false, false, false, false, false, false, false, false, false, false, false, false, false, false, false, false]) (v := ?tv14) rfl rfl (by decide) (by kernel_rfl) (by kernel_rfl) (by kernel_rfl) (by kernel_rfl) (by kernel_rfl) (by kernel_rfl) (by kernel_rfl) (fun _ _ _ h => h) (Or.inl ⟨by rfl, ?ty14⟩) hSV ?tr14
    case ty14 =>
      intro w' hw'
      obtain ⟨s0, s4, sS, sO, sN⟩ := hw'
      go_simp
      try with_reducible rfl
    simp only [Act.put, List.setIfInBounds_toArray, List.set_cons_zero, List.set_cons_succ]
    refine anyT_takeD (i := 15) (m := 32) (d := some 59) (L' := #[true, true, true, true, true, true, true, true, true, true, true, true, true, true, true, true, false, false, false, false, false, false, false, false, false, false, false, false, false, false, false, false, false]) (v := ?tv15) rfl rfl (by decide) (by kernel_rfl) (by kernel_rfl) (by kernel_rfl) (by kernel_rfl) (by kernel_rfl) (by kernel_rfl) (by kernel_rfl) (fun _ _ _ h => h) (Or.inl ⟨by rfl, ?ty15⟩) hSV ?tr15
    case ty15 =>
      intro w' hw'
      obtain ⟨s0, s4, sS, sO, sN⟩ := hw'
      go_simp
      try with_reducible rfl
    simp only [Act.put, List.setIfInBounds_toArray, List.set_cons_zero, List.set_cons_succ]
    refine anyT_takeD (i := 16) (m := 32) (d := some 60) (L' := #[true, true, true, true, true, true, true, true, true, true, true, true, true, true, true, true, true, false, false, false, false, false, false, false, false, false, false, false, false, false, false, false, false]) (v := ?tv16) rfl rfl (by decide) (by kernel_rfl) (by kernel_rfl) (by kernel_rfl) (by kernel_rfl) (by kernel_rfl) (by kernel_rfl) (by kernel_rfl) (fun _ _ _ h => h) (Or.inl ⟨by rfl, ?ty16⟩) hSV ?tr16
    case ty16 =>
      intro w' hw'
      obtain ⟨s0, s4, sS, sO, sN⟩ := hw'
      go_simp
      try with_reducible rfl
    simp only [Act.put, List.setIfInBounds_toArray, List.set_cons_zero, List.set_cons_succ]
    refine anyT_takeD (i := 17) (m := 32) (d := some 61) (L' := #[true, true, true, true, true, true, true, true, true, true, true, true, true, true, true, true, true, true, false, false, false, false, false, false, false, false, false, false, false, false, false, false, false]) (v := ?tv17) rfl rfl (by decide) (by kernel_rfl) (by kernel_rfl) (by kernel_rfl) (by kernel_rfl) (by kernel_rfl) (by kernel_rfl) (by kernel_rfl) (fun _ _ _ h => h) (Or.inl ⟨by rfl, ?ty17⟩) hSV ?tr17
    case ty17 =>
      intro w' hw'
      obtain ⟨s0, s4, sS, sO, sN⟩ := hw'
      go_simp
      try with_reducible rfl
    simp only [Act.put, List.setIfInBounds_toArray, List.set_cons_zero, List.set_cons_succ]
    refine anyT_takeD (i := 18) (m := 32) (d := some 62) (L' := #[true, true, true, true, true, true, true, true, true, true, true, true, true, true, true, true, true, true, true, false, false, false, false, false, false, false, false, false, false, false, false, false, false]) (v := ?tv18) rfl rfl (by decide) (by kernel_rfl) (by kernel_rfl) (by kernel_rfl) (by kernel_rfl) (by kernel_rfl) (by kernel_rfl) (by kernel_rfl) (fun _ _ _ h => h) (Or.inl ⟨by rfl, ?ty18⟩) hSV ?tr18
    case ty18 =>
      intro w' hw'
      obtain ⟨s0, s4, sS, sO, sN⟩ := hw'
      go_simp
      try with_reducible rfl
    simp only [Act.put, List.setIfInBounds_toArray, List.set_cons_zero, List.set_cons_succ]
    refine anyT_takeD (i := 19) (m := 32) (d := some 63) (L' := #[true, true, true, true, true, true, true, true, true, true, true, true, true, true, true, true, true, true, true, true, false, false, false, false, false, false, false, false, false, false, false, false, false]) (v := ?tv19) rfl rfl (by decide) (by kernel_rfl) (by kernel_rfl) (by kernel_rfl) (by kernel_rfl) (by kernel_rfl) (by kernel_rfl) (by kernel_rfl) (fun _ _ _ h => h) (Or.inl ⟨by rfl, ?ty19⟩) hSV ?tr19
    case ty19 =>
      intro w' hw'
      obtain ⟨s0, s4, sS, sO, sN⟩ := hw'
      go_simp
      try with_reducible rfl
    simp only [Act.put, List.setIfInBounds_toArray, List.set_cons_zero, List.set_cons_succ]
    refine anyT_takeD (i := 20) (m := 32) (d := some 64) (L' := #[true, true, true, true, true, true, true, true, true, true, true, true, true, true, true, true, true, true, true, true, true, false, false, false, false, false, false, false, false, false, false, false, false]) (v := ?tv20) rfl rfl (by decide) (by kernel_rfl) (by kernel_rfl) (by kernel_rfl) (by kernel_rfl) (by kernel_rfl) (by kernel_rfl) (by kernel_rfl) (fun _ _ _ h => h) (Or.inl ⟨by rfl, ?ty20⟩) hSV ?tr20
    case ty20 =>
      intro w' hw'
      obtain ⟨s0, s4, sS, sO, sN⟩ := hw'
      go_simp
      try with_reducible rfl
    simp only [Act.put, List.setIfInBounds_toArray, List.set_cons_zero, List.set_cons_succ]
    refine anyT_takeD (i := 21) (m := 32) (d := some 65) (L' := #[true, true, true, true, true, true, true, true, true, true, true, true, true, true, true, true, true, true, true, true, true, true, false, false, false, false, false, false, false, false, false, false, false]) (v := ?tv21) rfl rfl (by decide) (by kernel_rfl) (by kernel_rfl) (by kernel_rfl) (by kernel_rfl) (by kernel_rfl) (by kernel_rfl) (by kernel_rfl) (fun _ _ _ h => h) (Or.inl ⟨by rfl, ?ty21⟩) hSV ?tr21
    case ty21 =>
      intro w' hw'
      obtain ⟨s0, s4, sS, sO, sN⟩ := hw'
      go_simp
      try with_reducible rfl
    simp only [Act.put, List.setIfInBounds_toArray, List.set_cons_zero, List.set_cons_succ]
    refine anyT_takeD (i := 22) (m := 32) (d := some 66) (L' := #[true, true, true, true, true, true, true, true, true, true, true, true, true, true, true, true, true, true, true, true, true, true, true, false, false, false, false, false, false, false, false, false, false]) (v := ?tv22) rfl rfl (by decide) (by kernel_rfl) (by kernel_rfl) (by kernel_rfl) (by kernel_rfl) (by kernel_rfl) (by kernel_rfl) (by kernel_rfl) (fun _ _ _ h => h) (Or.inl ⟨by rfl, ?ty22⟩) hSV ?tr22
    case ty22 =>
      intro w' hw'
      obtain ⟨s0, s4, sS, sO, sN⟩ := hw'
      go_simp
      try with_reducible rfl
    simp only [Act.put, List.setIfInBounds_toArray, List.set_cons_zero, List.set_cons_succ]
    refine anyT_takeD (i := 23) (m := 32) (d := some 67) (L' := #[true, true, true, true, true, true, true, true, true, true, true, true, true, true, true, true, true, true, true, true, true, true, true, true, false, false, false, false, false, false, false, false, false]) (v := ?tv23) rfl rfl (by decide) (by kernel_rfl) (by kernel_rfl) (by kernel_rfl) (by kernel_rfl) (by kernel_rfl) (by kernel_rfl) (by kernel_rfl) (fun _ _ _ h => h) (Or.inl ⟨by rfl, ?ty23⟩) hSV ?tr23
    case ty23 =>
      intro w' hw'
      obtain ⟨s0, s4, sS, sO, sN⟩ := hw'
      go_simp
      try with_reducible rfl
    simp only [Act.put, List.setIfInBounds_toArray, List.set_cons_zero, List.set_cons_succ]
    refine anyT_takeD (i := 24) (m := 32) (d := some 68) (L' := #[true, true, true, true, true, true, true, true, true, true, true, true, true, true, true, true, true, true, true, true, true, true, true, true, true, false, false, false, false, false, false, false, false]) (v := ?tv24) rfl rfl (by decide) (by kernel_rfl) (by kernel_rfl) (by kernel_rfl) (by kernel_rfl) (by kernel_rfl) (by kernel_rfl) (by kernel_rfl) (fun _ _ _ h => h) (Or.inl ⟨by rfl, ?ty24⟩) hSV ?tr24
    case ty24 =>
      intro w' hw'
      obtain ⟨s0, s4, sS, sO, sN⟩ := hw'
      go_simp
      try with_reducible rfl
    simp only [Act.put, List.setIfInBounds_toArray, List.set_cons_zero, List.set_cons_succ]
    refine anyT_takeD (i := 26) (m := 32) (d := some 70) (L' := #[true, true, true, true, true, true, true, true, true, true, true, true, true, true, true, true, true, true, true, true, true, true, true, true, true, false, true, false, false, false, false, false, false]) (v := ?tv26) rfl rfl (by decide) (by kernel_rfl) (by kernel_rfl) (by kernel_rfl) (by kernel_rfl) (by kernel_rfl) (by kernel_rfl) (by kernel_rfl) (fun _ _ _ h => h) (Or.inl ⟨by rfl, ?ty26⟩) hSV ?tr26
    case ty26 =>
      intro w' hw'
      obtain ⟨s0, s4, sS, sO, sN⟩ := hw'
      go_simp
      try with_reducible rfl
    simp only [Act.put, List.setIfInBounds_toArray, List.set_cons_zero, List.set_cons_succ]
    have HO := hide (unhide HHV).out
    have HOB := hide (show ∀ g, ov.ownBlock = some g → g ≠ G.rb from fun g hg e => by
      obtain ⟨cur, hc⟩ := (unhide HHV).ot hg
      exact ne_of_types hc (unhide HHV).rn (by decide) e)
    have hrbl : G.rb < V.heap.size := (Array.getElem?_eq_some_iff.1 (unhide HHV).rn).1
    have hbl := (unhide HHV).bel.size
    have HFZ := hide ((unhide HHV).fz 4)
    have HSV := hide hSV
    have HALL := hide (show SX G ov (V.alloc (.cells #[.int .i64 (d : Int), .int .i64 (y : Int)] 84)) from by
      have hr := (unhide HHV).rn
      have hb : Below V.heap.size V (V.alloc (.cells #[.int .i64 (d : Int), .int .i64 (y : Int)] 84)) := alloc_below _ _
      have PA := K.P.below K.n1 ((unhide HHV).bel.trans (hb.mono hbl))
      obtain ⟨s0, s4, _, _, _⟩ := unhide HSV
      exact ⟨(World.cell?_of_block (w := V) (hb.block G.rb hrbl)).trans s0, (World.cell?_of_block (w := V) (hb.block G.rb hrbl)).trans s4, PA.cS, PA.cO, PA.ord.cn⟩)
    have HKEEP := hide (show ∀ w3 : World, (V.alloc (.cells #[.int .i64 (d : Int), .int .i64 (y : Int)] 84)).grownBy w3 ov.ownBlock → SX G ov w3 ∧ w3.frozen? ⟨G.rb, 4, none⟩ = false by
      intro w3 hg
      have hn1 : some G.rb ≠ ov.ownBlock := fun e => unhide HOB _ e.symm rfl
      have hpb := K.P.pbl
      have hob := K.P.obl
      have hn2 : some G.E.pb ≠ ov.ownBlock := fun e => by have := (unhide HHV).ob e.symm; omega
      have hn3 : some G.E.ob ≠ ov.ownBlock := fun e => by have := (unhide HHV).ob e.symm; omega
      have hab : Below V.heap.size V (V.alloc (.cells #[.int .i64 (d : Int), .int .i64 (y : Int)] 84)) := alloc_below _ _
      obtain ⟨s0, s4, sS, sO, sN⟩ := unhide HSV
      refine ⟨⟨?_, ?_, ?_, ?_, ?_⟩, ?_⟩
      · rw [(far hg hrbl (by simp) hab hn1 0).1]; exact s0
      · rw [(far hg hrbl (by simp) hab hn1 4).1]; exact s4
      · rw [(far hg (by omega : G.E.pb < V.heap.size) (by simp) hab hn2 1).1]; exact sS
      · rw [(far hg (by omega : G.E.pb < V.heap.size) (by simp) hab hn2 0).1]; exact sO
      · rw [(far hg (by omega : G.E.ob < V.heap.size) (by simp) hab hn3 0).1]; exact sN
      · rw [(far hg hrbl (by simp) hab hn1 4).2]; exact unhide HFZ)
    refine anyT_one (i := 25) (L' := #[true, true, true, true, true, true, true, true, true, true, true, true, true, true, true, true, true, true, true, true, true, true, true, true, true, true, true, false, false, false, false, false, false]) (by kernel_rfl) rfl (by kernel_rfl) (fun K1 hK1 => ?_)
    go_simp
    refine (digit_any _ _ _ hbb0 hbb1).mono ?_
    rintro e V ⟨rfl, rfl⟩
    rw [unhide HD]
    refine unhide hK1 _ _ (fun _ => unhide HSV) ?_
    refine anyT_takeD (i := 27) (m := 32) (d := some 71) (L' := #[true, true, true, true, true, true, true, true, true, true, true, true, true, true, true, true, true, true, true, true, true, true, true, true, true, true, true, true, false, false, false, false, false]) (v := ?tv27) rfl rfl (by decide) (by kernel_rfl) (by kernel_rfl) (by kernel_rfl) (by kernel_rfl) (by kernel_rfl) (by kernel_rfl) (by kernel_rfl) (fun _ _ _ h => h) (Or.inl ⟨by rfl, ?ty27⟩) (unhide HSV) ?tr27
    case ty27 =>
      intro w' _
      go_simp
      try with_reducible rfl
    simp only [Act.put, List.setIfInBounds_toArray, List.set_cons_zero, List.set_cons_succ]
    refine anyT_one (i := 28) (L' := #[true, true, true, true, true, true, true, true, true, true, true, true, true, true, true, true, true, true, true, true, true, true, true, true, true, true, true, true, true, false, false, false, false]) (by kernel_rfl) rfl (by kernel_rfl) (fun K2 hK2 => ?_)
    go_simp
    refine unhide hK2 _ _ (fun _ => unhide HALL) ?_
    refine anyT_one (i := 29) (L' := #[true, true, true, true, true, true, true, true, true, true, true, true, true, true, true, true, true, true, true, true, true, true, true, true, true, true, true, true, true, true, false, false, false]) (by kernel_rfl) rfl (by kernel_rfl) (fun K3 hK3 => ?_)
    refine step_append_lies _ (by rfl) _ _ _ (by rfl) G.w0.heap.size 84 i0 _ 2 16 Tryz.underlying33 (unhide HI).1 (unhide HI).2.1 (unhide HI).2.2.1 (unhide HI).2.2.2 rfl (by omega) ov st.out.length (evC st.out) (by rfl) ((unhide HO).alloc _) ⟨V.heap.size, 0, none⟩ 1 1 [.int .i64 (d : Int), .int .i64 (y : Int)] (by rfl) (by rfl) (World.news_of_block (cs := #[.int .i64 (d : Int), .int .i64 (y : Int)]) (t := 84) (fr := (0, 0)) (heap_alloc_new V _)) (by simp [Value.oneCell']) (by omega) (by unfold maxLen; omega) (by omega) (by simp; omega) (V.heap.size + 1) (by simp) ?_
    intro gg cap w3 hown1 hgrow hat hlt9
    have hS3 := (unhide HKEEP _ hgrow).1
    have hc5 : w3.cell? ⟨G.rb, 4, none⟩ = some ov := hS3.2.1
    have hf5 := (unhide HKEEP _ hgrow).2
    have HA2 := hide ((unhide HHV).push K.S K.n1 (by simp) (alloc_below _ _) hown1 hgrow)
    clear hown1 hgrow hat hlt9
    show K3 (Act.put _ (some 73) (.slice (some ⟨gg, 0, none⟩) (st.out.length + 1) cap)) w3
    refine unhide hK3 _ _ (fun _ => hS3) ?_
    simp only [Act.put, List.setIfInBounds_toArray, List.set_cons_zero, List.set_cons_succ]
    refine anyT_freeD (i := 30) (m := 32) (d := some 74) (L' := #[true, true, true, true, true, true, true, true, true, true, true, true, true, true, true, true, true, true, true, true, true, true, true, true, true, true, true, true, true, true, true, false, false]) (v := ?tv30) rfl (by decide) (by kernel_rfl) (by kernel_rfl) (by kernel_rfl) (by kernel_rfl) (by kernel_rfl) (fun _ _ _ h => h) (Or.inl ⟨by rfl, ?ty30⟩) hS3 ?tr30
    case ty30 =>
      intro w' _
      go_simp
      try with_reducible rfl
    simp only [Act.put, List.setIfInBounds_toArray, List.set_cons_zero, List.set_cons_succ]
    refine anyT_freeD (i := 31) (m := 32) (d := some 75) (L' := #[true, true, true, true, true, true, true, true, true, true, true, true, true, true, true, true, true, true, true, true, true, true, true, true, true, true, true, true, true, true, true, true, false]) (v := ?tv31) rfl (by decide) (by kernel_rfl) (by kernel_rfl) (by kernel_rfl) (by kernel_rfl) (by kernel_rfl) (fun _ _ _ h => h) (Or.inl ⟨by rfl, ?ty31⟩) hS3 ?tr31
    case ty31 =>
      intro w' _
      go_simp
      try with_reducible rfl
    simp only [Act.put, List.setIfInBounds_toArray, List.set_cons_zero, List.set_cons_succ]
    refine anyT_one (i := 32) (L' := #[true, true, true, true, true, true, true, true, true, true, true, true, true, true, true, true, true, true, true, true, true, true, true, true, true, true, true, true, true, true, true, true, true]) (by kernel_rfl) rfl (by kernel_rfl) (fun K4 hK4 => ?_)
    go_simp
    refine unhide hK4 _ _ (fun h => absurd (h.symm.trans (show _ = true by kernel_rfl)) (by decide)) ?_
    refine anyT_done (by kernel_rfl) ?_ _
    clear hK1 hK2 hK3 hK4 K1 K2 K3 K4 hS3 hc5 hf5
    go_wp2_with fail
    go_ret
    exact ⟨rfl, _, unhide HA2⟩

end Go.Proofs.YtfcflnnleadpkaaGreat
