import Derived.Test.YtfcflnnleadpkaaTnJ
import Derived.Deep.LoopGhost
import Derived.Deep.RegionWith
import Derived.Deep.QuietTactic
import Derived.BigQuiet
namespace Go.Proofs.Ytfcflnnleadpkaa
open Go.RowKit
variable {E : Env} {w w' w0 w1 wa : World}

/-- A list that is a labelling. -/
def spOk (E : Env) (m : Nat) (L : Nat → Int) : Prop := m = E.nv + 2 * E.np ∧ ∀ i, i < m → 0 ≤ L i ∧ L i < (E.n : Int)
/-- What splitting leaves. -/
def SpPost (E : Env) (m : Nat) (L : Nat → Int) (w : World) (b : Bool) (w' : World) : Prop :=
  Below w.heap.size w w' ∧ (b = true → spOk E m L ∧ ∃ vv xv tv, LI w w' vv xv tv (spV L E.nv) (spX L E.nv E.np) (spT L E.nv E.np)) ∧ (b = false → ¬ spOk E m L)

set_option maxHeartbeats 1600000 in
set_option maxRecDepth 100000 in
theorem split_any {m : Nat} {L : Nat → Int} {lv : Value} (hn : 1 ≤ E.n) (hnv : E.nv ≤ 8) (hnp : E.np ≤ 4) (h : Pg E w) (hl : Sli w lv m L) :
    Calls Try.prog 25 #[.pointer (some ⟨E.pb, 0, none⟩), lv] w fun e w' => ∃ b, e = .returned (.tuple #[.pointer (some ⟨w.heap.size, 0, none⟩), .bool b]) ∧ SpPost E m L w b w' := by
  obtain ⟨la, lc, rfl, _, hcell⟩ := id hl
  have HSL := hide hl
  have HH := hide h
  have HL0 := hide (LK_init w L E.nv)
  obtain ⟨i0, hi0, hz0, hz1, hz2⟩ := info_parts info_int
  have HI := hide (And.intro hi0 (And.intro hz0 (And.intro hz1 hz2)))
  have qf := h.cF
  have qp := h.cPr
  obtain ⟨fa, fc, hfs⟩ := sl_form E.nv E.gf E.cf
  obtain ⟨pa, pc, hps⟩ := sl_form E.np E.gp E.cp
  have HB0 := hide (alloc_below w (.cells #[.slice none 0 0, .slice none 0 0, .slice none 0 0] 100))
  have qp0 := ((unhide HH).below hn (unhide HB0)).cPr
  rw [hfs] at qf
  rw [hps] at qp qp0
  clear h hl hcell hi0 hz0 hz1 hz2 hfs
  by_cases hm : m = E.nv + 2 * E.np
  · have HM := hide hm
    clear hm
    have hm0 : (m : Int) = (E.nv : Int) + 2 * (E.np : Int) := by have := unhide HM; omega
    go_enter Try.func25, Try.ntmps25
    go_wp2_with fail
    clear qf qp qp0 hm0
    go_loopg [8] m (fun g d wr => ∃ (k : Nat) (vv xv tv : Value), k + g = m ∧ d = .int .i64 (k : Int) ∧ LK w wr vv xv tv L E.nv k ∧ ∀ i, i < k → 0 ≤ L i ∧ L i < (E.n : Int))
    case atStart => exact ⟨0, _, _, _, Nat.zero_add _, rfl, unhide HL0, fun i hi => by omega⟩
    case round =>
      obtain ⟨k, vv, xv, tv, hkg, rfl, hli, hall⟩ := hrel
      have HL := hide hli
      have HALL := hide hall
      have HBE := hide hli.bel
      have HP := hide ((unhide HH).below hn hli.bel)
      clear hli hall
      by_cases hlt : k < m
      · have hlt' : (k : Int) < (m : Int) := by omega
        obtain ⟨la', lc', e0, _, hc0⟩ := (unhide HSL).below (unhide HBE)
        obtain ⟨ad, e1, hc⟩ := hc0 k hlt
        injection e0 with e00 _ e01
        subst e00 e01 e1
        obtain ⟨x, HX⟩ : ∃ x, Hid (L k = x) := ⟨_, rfl⟩
        rw [unhide HX] at hc
        have qO := (unhide HP).cO
        have qN := (unhide HP).ord.cn
        clear hc0
        by_cases h0 : x < 0
        · have h0' : decide (x < 0) = true := by simpa using h0
          go_wp2_with fail
          go_quiet (fail)
          go_wp2_with fail
          go_ret2
          refine ⟨false, rfl, below_drewN2 (unhide HBE) _, (fun h => by cases h), fun _ hs => ?_⟩
          have := (hs.2 k hlt).1
          rw [unhide HX] at this
          omega
        · have h0' : decide (x < 0) = false := by simpa using h0
          by_cases h1 : (E.n : Int) ≤ x
          · have h1' : decide ((E.n : Int) ≤ x) = true := by simpa using h1
            go_wp2_with fail
            go_quiet (fail)
            go_wp2_with fail
            go_ret2
            refine ⟨false, rfl, below_drewN2 (unhide HBE) _, (fun h => by cases h), fun _ hs => ?_⟩
            have := (hs.2 k hlt).2
            rw [unhide HX] at this
            omega
          · have h1' : decide ((E.n : Int) ≤ x) = false := by simpa using h1
            go_wp2_with fail
            go_quiet (fail)
            obtain ⟨y, rfl⟩ : ∃ y : Nat, x = (y : Int) := ⟨x.toNat, by omega⟩
            have HALL2 : Hid (∀ i, i < k + 1 → 0 ≤ L i ∧ L i < (E.n : Int)) := by
              intro i hi
              by_cases e : i = k
              · rw [e, unhide HX]; omega
              · exact unhide HALL i (by omega)
            obtain ⟨W, HW⟩ : ∃ W, Hid (wr.drewN nq = W) := ⟨_, rfl⟩
            rw [unhide HW]
            have HLW : Hid (LK w W vv xv tv L E.nv k) := by rw [← unhide HW]; exact (unhide HL).li.drewN nq
            have hcW : W.cell? (ad.add k) = some (.int .i64 (y : Int)) := by rw [← unhide HW]; exact hc
            have hbw := (unhide HLW).li.lt
            have hws := (unhide HLW).li.bel.size
            have hm16 : m ≤ 16 := by have := unhide HM; omega
            have hw1 : Hid (Value.int .i64 ((k : Int) + 1) = Value.int .i64 ((k + 1 : Nat) : Int)) := hide (congrArg (Value.int .i64) (by omega))
            clear hc qO qN h0 h0' h1 h1'
            by_cases hk2 : k < E.nv
            · have hk3 : (k : Int) < (E.nv : Int) := by omega
              · have HK2 := hide hk2
                obtain ⟨a, cp, rfl, hown, hlb⟩ := (unhide HLW).vrow hk2
                have HOWN := hide hown
                have q0 := (unhide HLW).li.c0
                have z0 := (unhide HLW).li.fz 0
                have hca := fun o => (World.cell?_of_block (w := W) (a := ⟨w.heap.size, 0, none⟩) (Below.heap_alloc W o _ hbw)).trans q0
                have hfa := fun o => (World.frozen?_of_block (w := W) (a := ⟨w.heap.size, 0, none⟩) (Below.heap_alloc W o _ hbw)).trans z0
                clear hown
                go_wp2_with fail
                go_region_law ((refine step_append_lies _ (by rfl) _ _ _ (by rfl) (w.heap.size + 1) 3 i0 _ 1 8 Try.underlying46 (unhide HI).1 (unhide HI).2.1 (unhide HI).2.2.1 (unhide HI).2.2.2 rfl (by omega) (.slice a k cp) k (cells (spV L k)) (by rfl) (((unhide HOWN).alloc _).drew) ⟨W.heap.size, 0, none⟩ 1 1 [.int .i64 (y : Int)] (by rfl) (by rfl) (World.news_of_block (cs := #[.int .i64 (y : Int)]) (t := 3) (fr := (0, 0)) (heap_alloc_new W _)) (by simp [Value.oneCell']) (by omega) (by unfold maxLen; omega) (by omega) (by simp; omega) (W.heap.size + 1) (by simp) ?_; intro gg cap w3 hown1 hgrow hat hlt9; have hc5 := (hgrow.cell_far ⟨w.heap.size, 0, none⟩ (by simp; omega) hlb).trans (hca _); have hf5 := (hgrow.frozen_far ⟨w.heap.size, 0, none⟩ (by simp; omega) hlb).trans (hfa _)))
                all_goals
                  have HL2 := hide ((unhide HLW).stepV (unhide HK2) (unhide HX) (by simp) (below_drewN2 (alloc_below _ _) 1) hown1 hgrow hat)
                  clear hown1 hgrow hat hlt9 hc5 hf5 hca hfa
                  go_wp2_with fail
                  go_roundg (gk - 1)
                  case measure => omega
                  case rel => exact ⟨k + 1, _, _, _, by omega, unhide hw1, unhide HL2, unhide HALL2⟩
            · have hk3 : decide ((k : Int) < (E.nv : Int)) = false := by simp; omega
              by_cases hev : (k - E.nv) % 2 = 0
              · obtain ⟨q, hk2⟩ : ∃ q, k = E.nv + 2 * q := ⟨(k - E.nv) / 2, by omega⟩
                have hev' : ((k : Int) - (E.nv : Int)).tmod 2 = 0 := by rw [show (k : Int) - (E.nv : Int) = ((k - E.nv : Nat) : Int) by omega, show (2 : Int) = ((2 : Nat) : Int) from rfl, ← Int.ofNat_tmod, show (k - E.nv) % 2 = 0 by omega]; rfl
                have HK2 := hide hk2
                obtain ⟨a, cp, rfl, hown, hlb⟩ := (unhide HLW).xrow hk2
                have hq4 : q ≤ 8 := by omega
                clear hk2 hev
                have HOWN := hide hown
                have q0 := (unhide HLW).li.c1
                have z0 := (unhide HLW).li.fz 1
                have hca := fun o => (World.cell?_of_block (w := W) (a := ⟨w.heap.size, 1, none⟩) (Below.heap_alloc W o _ hbw)).trans q0
                have hfa := fun o => (World.frozen?_of_block (w := W) (a := ⟨w.heap.size, 1, none⟩) (Below.heap_alloc W o _ hbw)).trans z0
                clear hown
                go_wp2_with fail
                go_region_law ((refine step_append_lies _ (by rfl) _ _ _ (by rfl) (w.heap.size + 1) 3 i0 _ 1 8 Try.underlying46 (unhide HI).1 (unhide HI).2.1 (unhide HI).2.2.1 (unhide HI).2.2.2 rfl (by omega) (.slice a q cp) q (cells (spX L E.nv q)) (by rfl) (((unhide HOWN).alloc _).drew) ⟨W.heap.size, 0, none⟩ 1 1 [.int .i64 (y : Int)] (by rfl) (by rfl) (World.news_of_block (cs := #[.int .i64 (y : Int)]) (t := 3) (fr := (0, 0)) (heap_alloc_new W _)) (by simp [Value.oneCell']) (by omega) (by unfold maxLen; omega) (by omega) (by simp; omega) (W.heap.size + 1) (by simp) ?_; intro gg cap w3 hown1 hgrow hat hlt9; have hc5 := (hgrow.cell_far ⟨w.heap.size, 1, none⟩ (by simp; omega) hlb).trans (hca _); have hf5 := (hgrow.frozen_far ⟨w.heap.size, 1, none⟩ (by simp; omega) hlb).trans (hfa _)))
                all_goals
                  have HL2 := hide ((unhide HLW).stepX (unhide HK2) (unhide HX) (by simp) (below_drewN2 (alloc_below _ _) 1) hown1 hgrow hat)
                  clear hown1 hgrow hat hlt9 hc5 hf5 hca hfa
                  go_wp2_with fail
                  go_roundg (gk - 1)
                  case measure => omega
                  case rel => exact ⟨k + 1, _, _, _, by omega, unhide hw1, unhide HL2, unhide HALL2⟩
              · obtain ⟨q, hk2⟩ : ∃ q, k = E.nv + 2 * q + 1 := ⟨(k - E.nv) / 2, by omega⟩
                have hev' : ((k : Int) - (E.nv : Int)).tmod 2 = 1 := by rw [show (k : Int) - (E.nv : Int) = ((k - E.nv : Nat) : Int) by omega, show (2 : Int) = ((2 : Nat) : Int) from rfl, ← Int.ofNat_tmod, show (k - E.nv) % 2 = 1 by omega]; rfl
                have HK2 := hide hk2
                obtain ⟨a, cp, rfl, hown, hlb⟩ := (unhide HLW).trow hk2
                have hq4 : q ≤ 8 := by omega
                clear hk2 hev
                have HOWN := hide hown
                have q0 := (unhide HLW).li.c2
                have z0 := (unhide HLW).li.fz 2
                have hca := fun o => (World.cell?_of_block (w := W) (a := ⟨w.heap.size, 2, none⟩) (Below.heap_alloc W o _ hbw)).trans q0
                have hfa := fun o => (World.frozen?_of_block (w := W) (a := ⟨w.heap.size, 2, none⟩) (Below.heap_alloc W o _ hbw)).trans z0
                clear hown
                go_wp2_with fail
                go_region_law ((refine step_append_lies _ (by rfl) _ _ _ (by rfl) (w.heap.size + 1) 3 i0 _ 1 8 Try.underlying46 (unhide HI).1 (unhide HI).2.1 (unhide HI).2.2.1 (unhide HI).2.2.2 rfl (by omega) (.slice a q cp) q (cells (spT L E.nv q)) (by rfl) (((unhide HOWN).alloc _).drew) ⟨W.heap.size, 0, none⟩ 1 1 [.int .i64 (y : Int)] (by rfl) (by rfl) (World.news_of_block (cs := #[.int .i64 (y : Int)]) (t := 3) (fr := (0, 0)) (heap_alloc_new W _)) (by simp [Value.oneCell']) (by omega) (by unfold maxLen; omega) (by omega) (by simp; omega) (W.heap.size + 1) (by simp) ?_; intro gg cap w3 hown1 hgrow hat hlt9; have hc5 := (hgrow.cell_far ⟨w.heap.size, 2, none⟩ (by simp; omega) hlb).trans (hca _); have hf5 := (hgrow.frozen_far ⟨w.heap.size, 2, none⟩ (by simp; omega) hlb).trans (hfa _)))
                all_goals
                  have HL2 := hide ((unhide HLW).stepT (unhide HK2) (unhide HX) (by simp) (below_drewN2 (alloc_below _ _) 1) hown1 hgrow hat)
                  clear hown1 hgrow hat hlt9 hc5 hf5 hca hfa
                  go_wp2_with fail
                  go_roundg (gk - 1)
                  case measure => omega
                  case rel => exact ⟨k + 1, _, _, _, by omega, unhide hw1, unhide HL2, unhide HALL2⟩
      · have hke : k = m := by omega
        subst hke
        have hlt' : decide ((k : Int) < (k : Int)) = false := by simp
        go_wp2_with fail
        go_ret2
        have HF := unhide HL
        have e1 : min k E.nv = E.nv := by have := unhide HM; omega
        have e2 : (k - E.nv + 1) / 2 = E.np := by have := unhide HM; omega
        have e3 : (k - E.nv) / 2 = E.np := by have := unhide HM; omega
        unfold LK at HF
        rw [e1, e2, e3] at HF
        exact ⟨true, rfl, unhide HBE, fun _ => ⟨⟨unhide HM, unhide HALL⟩, vv, xv, tv, HF⟩, (fun h => by cases h)⟩
  · have hm' : decide ((m : Int) = (E.nv : Int) + 2 * (E.np : Int)) = false := by simp; omega
    go_enter Try.func25, Try.ntmps25
    go_wp2_with fail
    go_ret2
    exact ⟨false, rfl, unhide HB0, (fun h => by cases h), fun _ hs => hm hs.1⟩

end Go.Proofs.Ytfcflnnleadpkaa
