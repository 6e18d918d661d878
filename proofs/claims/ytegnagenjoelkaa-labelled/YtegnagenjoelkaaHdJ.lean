import Derived.Test.YtegnagenjoelkaaFlJ
import Derived.Test.YtegnagenjoelkaaTnJ
import Derived.Deep.LoopGhost
import Derived.Deep.RegionWith
import Derived.Deep.QuietTactic
import Derived.BigQuiet
import Derived.Test.YtegnagenjoelkaaQaJ
namespace Go.Proofs.Ytegnagenjoelkaa
open Go.RowKit

/-- What 'readFlow' answers. -/
def RfAns (o s : ByteArray) (e : Ending) : Prop := ∃ C, e = .returned (.agg C) ∧ ∃ (a p : Int) (n : Nat), CkPost o s a p n ∧ C.size = 1063 ∧ C.all (·.oneCell') = true ∧ C[0]? = some (.int .i64 a) ∧ C[1]? = some (.int .i64 p) ∧
  (a = 0 → p = 0 ∧ ReadPost o 0 0 n ∧ prE s n = 0 ∧ ∃ v st, C = flC (mkD o s n 0 v) st ∧ (∀ k, k < prNv s n → st.V k = (ckL o s n).V k) ∧ (∀ k, k < (prPs s n).length → st.X k = (ckL o s n).X k) ∧ ∀ k, k < (prPs s n).length → st.T k = (ckL o s n).T k)
theorem CkPost_rd {o s : ByteArray} {a p : Int} {n : Nat} (h : CkPost o s a p n) (ha : a = 0) : ReadPost o 0 0 n := by
  rcases h with ⟨_, h2⟩ | ⟨h1, _⟩ | ⟨h1, _⟩ | ⟨h1, _⟩
  · exact absurd ha h2
  · exact h1
  · exact h1
  · exact h1
theorem rf_any (w : World) (o s : ByteArray) : Calls Try.prog 35 #[.string o, .string s] w fun e w' => RfAns o s e ∧ Below w.heap.size w w' := by
  by_cases h : ∃ n, ReadPost o 0 0 n
  · obtain ⟨n, hn⟩ := h
    refine (rf_good w o s n hn).mono ?_
    rintro e w' ⟨⟨C, rfl, a, p, h1, h2, h3, h4, h5, h6⟩, hb⟩
    refine ⟨⟨C, rfl, a, p, n, h1, h2, h3, h4, h5, fun ha => ?_⟩, hb⟩
    obtain ⟨q1, q2, q3⟩ := h6 ha
    exact ⟨q1, hn, q2, q3⟩
  · refine (rf_order w o s (fun a p n hr ha => h ⟨n, ?_⟩)).mono ?_
    · have hp := ReadPost_p0 hr ha
      rw [ha, hp] at hr
      exact hr
    · rintro e w' ⟨⟨a, p, n, hr, rfl⟩, hb⟩
      have ha : a ≠ 0 := fun ha => h ⟨n, by
        have hp := ReadPost_p0 hr ha
        rw [ha, hp] at hr
        exact hr⟩
      exact ⟨⟨_, rfl, a, p, n, Or.inl ⟨hr, ha⟩, flwC_size _ _ _ _ _ _ _ _, flwC_all (levF_one _ _ _ _) (prgF_one rfl), flwC_g 0 (by omega), flwC_g 1 (by omega), fun h0 => absurd h0 ha⟩, hb⟩
theorem get_of? {C : Array Value} {k : Nat} {x : Value} (h : C[k]? = some x) (hk : k < C.size) : C[k] = x := by
  rw [Array.getElem?_eq_getElem hk] at h
  exact Option.some.inj h

set_option maxHeartbeats 2000000 in
set_option maxRecDepth 200000 in
theorem hushCheck_ok : HushCheck := by
  intro w o s
  have hz := zero_flw
  have z0 := flwC_size 0 0 L0 P0 noW noW noW false
  go_enter Try.func17, Try.ntmps17
  go_wp2_with fail
  refine (rf_any _ _ _).mono ?_
  rintro e w1 ⟨⟨C, rfl, a, p, n, hck, hsz, hall, h0, h1, _⟩, hb⟩
  have HCK := hide hck
  have hst := store_arr size_flw (w1.alloc (.cells (flwC 0 0 L0 P0 noW noW noW false) 90)) w1.heap.size _ C (flwC_size _ _ _ _ _ _ _ _) hsz hall (heap_alloc_last w1 _)
  rw [World.setRow_alloc_new] at hst
  have c0 := get_of? h0
  have c1 := get_of? h1
  clear hck hall
  go_wp2_with fail
  go_quiet (fail)
  go_wp2_with fail
  go_ret2
  exact ⟨⟨a, p, n, unhide HCK, rfl⟩, below_drewN' (hb.trans ((Below.refl _ _).alloc hb.size _)) _⟩

set_option maxHeartbeats 2000000 in
set_option maxRecDepth 200000 in
theorem hushLabels_ok : HushLabels := by
  intro w o s
  have hz := zero_flw
  have z0 := flwC_size 0 0 L0 P0 noW noW noW false
  go_enter Try.func19, Try.ntmps19
  go_wp2_with fail
  refine (rf_any _ _ _).mono ?_
  rintro e w1 ⟨⟨C, rfl, a, p, n, hck, hsz, hall, h0, h1, hok⟩, hb⟩
  have HCK := hide hck
  have hst := store_arr size_flw (w1.alloc (.cells (flwC 0 0 L0 P0 noW noW noW false) 90)) w1.heap.size _ C (flwC_size _ _ _ _ _ _ _ _) hsz hall (heap_alloc_last w1 _)
  rw [World.setRow_alloc_new] at hst
  have c0 := get_of? h0
  have HOK := hide hok
  have HB := hide hb
  clear hck hall hok hb
  by_cases ha : a = 0
  · subst ha
    obtain ⟨hp, hR, hE, v, st, hC, u1, u2, u3⟩ := unhide HOK rfl
    have G := (mkD_ok (b := w1.heap.size) (v := v) hR hE).1
    have hnp : (rdFin s n).1 = (prPs s n).length := ((rdFin_ok (known hR hE).sz).2 hE).1
    have HFL := hide (show Fl (mkD o s n w1.heap.size v) (w1.alloc (.cells C 90)) st from by rw [hC]; exact heap_alloc_last w1 _)
    have HO := hide G.O
    have HP := hide hp
    have HU := hide (And.intro u1 (And.intro u2 u3))
    have HNP := hide hnp
    clear hp hR hE hC u1 u2 u3 G hnp
    go_wp2_with fail
    refine (fList (unhide HO) (unhide HFL)).mono ?_
    rintro e w2 ⟨lv2, rfl, hown, hb2⟩
    have HS := hide (show Sli w2 lv2 (prNv s n + 2 * (prPs s n).length) (lv (flF (ckL o s n) (prNv s n))) from by
      have hown2 : w2.ownsRow (w1.alloc (.cells C 90)).heap.size 3 1 lv2 (prNv s n + 2 * (rdFin s n).1) (cells (flL st (prNv s n) (prNv s n + 2 * (rdFin s n).1))) := hown
      rw [unhide HNP] at hown2
      refine (Sli.own (F := lv (flF st (prNv s n))) hown2 (fun k hk => ?_)).congr (fun i hi => ?_)
      · simp [cells, flL, hk, Go.Proofs.Ytegnagenjoelkaa.lv]
      · obtain ⟨u1, u2, u3⟩ := unhide HU
        show ((flF st (prNv s n) i : Nat) : Int) = ((flF (ckL o s n) (prNv s n) i : Nat) : Int)
        have e : flF st (prNv s n) i = flF (ckL o s n) (prNv s n) i := by
          unfold flF
          by_cases h1 : i < prNv s n
          · rw [if_pos h1, if_pos h1, u1 i h1]
          · rw [if_neg h1, if_neg h1, u2 _ (by omega), u3 _ (by omega)]
        rw [e])
    have HB2 := hide ((unhide HB).trans (((Below.refl _ _).alloc (unhide HB).size _).trans (hb2.mono (by have := (unhide HB).size; simp; omega))))
    clear hown hb2
    go_wp2_with fail
    go_ret2
    exact ⟨⟨0, p, n, unhide HCK, Or.inr ⟨rfl, unhide HP, lv2, unhide HS, rfl⟩⟩, unhide HB2⟩
  · have ha' : (a != 0) = true := by simpa using ha
    go_wp2_with fail
    go_quiet (fail)
    go_wp2_with fail
    go_ret2
    exact ⟨⟨a, p, n, unhide HCK, Or.inl ⟨ha, rfl⟩⟩, below_drewN' ((unhide HB).trans ((Below.refl _ _).alloc (unhide HB).size _)) _⟩

end Go.Proofs.Ytegnagenjoelkaa

namespace Go.Proofs.Ytegnagenjoelkaa
open Go.RowKit
variable {E : Env} {w w' w0 w1 wa : World}

/-- A list that is a labelling. -/
def spOk (E : Env) (m : Nat) (L : Nat → Int) : Prop := m = E.nv + 2 * E.np ∧ ∀ i, i < m → 0 ≤ L i ∧ L i < (E.n : Int)
/-- What splitting leaves. -/
def SpPost (E : Env) (m : Nat) (L : Nat → Int) (w : World) (b : Bool) (w' : World) : Prop :=
  Below w.heap.size w w' ∧ (b = true → spOk E m L ∧ ∃ vv xv tv, LI w w' vv xv tv (spV L E.nv) (spX L E.nv E.np) (spT L E.nv E.np)) ∧ (b = false → ¬ spOk E m L)

set_option maxHeartbeats 1600000 in
set_option maxRecDepth 100000 in
theorem split_any {m : Nat} {L : Nat → Int} {lv : Value} (hn : 1 ≤ E.n) (hnv : E.nv ≤ 8) (hnp : E.np ≤ 4) (h : Pg E w) (hl : Sli w lv m L) :
    Calls Try.prog 23 #[.pointer (some ⟨E.pb, 0, none⟩), lv] w fun e w' => ∃ b, e = .returned (.tuple #[.pointer (some ⟨w.heap.size, 0, none⟩), .bool b]) ∧ SpPost E m L w b w' := by
  obtain ⟨la, lc, rfl, _, hcell⟩ := id hl
  have HSL := hide hl
  have HH := hide h
  have HL0 := hide (LK_init w L E.nv)
  obtain ⟨i0, hi0, hz0, hz1, hz2⟩ := info_parts info_int
  have HI := hide (And.intro hi0 (And.intro hz0 (And.intro hz1 hz2)))
  have qf := h.cF
  have qp := h.cPr
  obtain ⟨fa, fc, hfs⟩ := sl_form E.nv E.gf E.cf
  obtain ⟨pa, pc, hps⟩ := sl_form E.np E.gp E.cp
  have HB0 := hide (alloc_below w (.cells #[.slice none 0 0, .slice none 0 0, .slice none 0 0] 98))
  have qp0 := ((unhide HH).below hn (unhide HB0)).cPr
  rw [hfs] at qf
  rw [hps] at qp qp0
  clear h hl hcell hi0 hz0 hz1 hz2 hfs
  by_cases hm : m = E.nv + 2 * E.np
  · have HM := hide hm
    clear hm
    have hm0 : (m : Int) = (E.nv : Int) + 2 * (E.np : Int) := by have := unhide HM; omega
    go_enter Try.func23, Try.ntmps23
    go_wp2_with fail
    clear qf qp qp0 hm0
    go_loopg [8] m (fun g d wr => ∃ (k : Nat) (vv xv tv : Value), k + g = m ∧ d = .int .i64 (k : Int) ∧ LK w wr vv xv tv L E.nv k ∧ ∀ i, i < k → 0 ≤ L i ∧ L i < (E.n : Int))
    case atStart => exact ⟨0, _, _, _, Nat.zero_add _, rfl, unhide HL0, fun i hi => by omega⟩
    case round =>
      obtain ⟨k, vv, xv, tv, hkg, rfl, hli, hall⟩ := hrel
      have HL := hide hli
      have HALL := hide hall
      have HBE := hide hli.bel
      have HP := hide ((unhide HH).below hn hli.bel)
      clear hli hall
      by_cases hlt : k < m
      · have hlt' : (k : Int) < (m : Int) := by omega
        obtain ⟨la', lc', e0, _, hc0⟩ := (unhide HSL).below (unhide HBE)
        obtain ⟨ad, e1, hc⟩ := hc0 k hlt
        injection e0 with e00 _ e01
        subst e00 e01 e1
        obtain ⟨x, HX⟩ : ∃ x, Hid (L k = x) := ⟨_, rfl⟩
        rw [unhide HX] at hc
        have qO := (unhide HP).cO
        have qN := (unhide HP).ord.cn
        clear hc0
        by_cases h0 : x < 0
        · have h0' : decide (x < 0) = true := by simpa using h0
          go_wp2_with fail
          go_quiet (fail)
          go_wp2_with fail
          go_ret2
          refine ⟨false, rfl, below_drewN2 (unhide HBE) _, (fun h => by cases h), fun _ hs => ?_⟩
          have := (hs.2 k hlt).1
          rw [unhide HX] at this
          omega
        · have h0' : decide (x < 0) = false := by simpa using h0
          by_cases h1 : (E.n : Int) ≤ x
          · have h1' : decide ((E.n : Int) ≤ x) = true := by simpa using h1
            go_wp2_with fail
            go_quiet (fail)
            go_wp2_with fail
            go_ret2
            refine ⟨false, rfl, below_drewN2 (unhide HBE) _, (fun h => by cases h), fun _ hs => ?_⟩
            have := (hs.2 k hlt).2
            rw [unhide HX] at this
            omega
          · have h1' : decide ((E.n : Int) ≤ x) = false := by simpa using h1
            go_wp2_with fail
            go_quiet (fail)
            obtain ⟨y, rfl⟩ : ∃ y : Nat, x = (y : Int) := ⟨x.toNat, by omega⟩
            have HALL2 : Hid (∀ i, i < k + 1 → 0 ≤ L i ∧ L i < (E.n : Int)) := by
              intro i hi
              by_cases e : i = k
              · rw [e, unhide HX]; omega
              · exact unhide HALL i (by omega)
            obtain ⟨W, HW⟩ : ∃ W, Hid (wr.drewN nq = W) := ⟨_, rfl⟩
            rw [unhide HW]
            have HLW : Hid (LK w W vv xv tv L E.nv k) := by rw [← unhide HW]; exact (unhide HL).li.drewN nq
            have hcW : W.cell? (ad.add k) = some (.int .i64 (y : Int)) := by rw [← unhide HW]; exact hc
            have hbw := (unhide HLW).li.lt
            have hws := (unhide HLW).li.bel.size
            have hm16 : m ≤ 16 := by have := unhide HM; omega
            have hw1 : Hid (Value.int .i64 ((k : Int) + 1) = Value.int .i64 ((k + 1 : Nat) : Int)) := hide (congrArg (Value.int .i64) (by omega))
            clear hc qO qN h0 h0' h1 h1'
            by_cases hk2 : k < E.nv
            · have hk3 : (k : Int) < (E.nv : Int) := by omega
              · have HK2 := hide hk2
                obtain ⟨a, cp, rfl, hown, hlb⟩ := (unhide HLW).vrow hk2
                have HOWN := hide hown
                have q0 := (unhide HLW).li.c0
                have z0 := (unhide HLW).li.fz 0
                have hca := fun o => (World.cell?_of_block (w := W) (a := ⟨w.heap.size, 0, none⟩) (Below.heap_alloc W o _ hbw)).trans q0
                have hfa := fun o => (World.frozen?_of_block (w := W) (a := ⟨w.heap.size, 0, none⟩) (Below.heap_alloc W o _ hbw)).trans z0
                clear hown
                go_wp2_with fail
                go_region_law ((refine step_append_lies _ (by rfl) _ _ _ (by rfl) (w.heap.size + 1) 3 i0 _ 1 8 Try.underlying46 (unhide HI).1 (unhide HI).2.1 (unhide HI).2.2.1 (unhide HI).2.2.2 rfl (by omega) (.slice a k cp) k (cells (spV L k)) (by rfl) (((unhide HOWN).alloc _).drew) ⟨W.heap.size, 0, none⟩ 1 1 [.int .i64 (y : Int)] (by rfl) (by rfl) (World.news_of_block (cs := #[.int .i64 (y : Int)]) (t := 3) (fr := (0, 0)) (heap_alloc_new W _)) (by simp [Value.oneCell']) (by omega) (by unfold maxLen; omega) (by omega) (by simp; omega) (W.heap.size + 1) (by simp) ?_; intro gg cap w3 hown1 hgrow hat hlt9; have hc5 := (hgrow.cell_far ⟨w.heap.size, 0, none⟩ (by simp; omega) hlb).trans (hca _); have hf5 := (hgrow.frozen_far ⟨w.heap.size, 0, none⟩ (by simp; omega) hlb).trans (hfa _)))
                all_goals
                  have HL2 := hide ((unhide HLW).stepV (unhide HK2) (unhide HX) (by simp) (below_drewN2 (alloc_below _ _) 1) hown1 hgrow hat)
                  clear hown1 hgrow hat hlt9 hc5 hf5 hca hfa
                  go_wp2_with fail
                  go_roundg (gk - 1)
                  case measure => omega
                  case rel => exact ⟨k + 1, _, _, _, by omega, unhide hw1, unhide HL2, unhide HALL2⟩
            · have hk3 : decide ((k : Int) < (E.nv : Int)) = false := by simp; omega
              by_cases hev : (k - E.nv) % 2 = 0
              · obtain ⟨q, hk2⟩ : ∃ q, k = E.nv + 2 * q := ⟨(k - E.nv) / 2, by omega⟩
                have hev' : ((k : Int) - (E.nv : Int)).tmod 2 = 0 := by rw [show (k : Int) - (E.nv : Int) = ((k - E.nv : Nat) : Int) by omega, show (2 : Int) = ((2 : Nat) : Int) from rfl, ← Int.ofNat_tmod, show (k - E.nv) % 2 = 0 by omega]; rfl
                have HK2 := hide hk2
                obtain ⟨a, cp, rfl, hown, hlb⟩ := (unhide HLW).xrow hk2
                have hq4 : q ≤ 8 := by omega
                clear hk2 hev
                have HOWN := hide hown
                have q0 := (unhide HLW).li.c1
                have z0 := (unhide HLW).li.fz 1
                have hca := fun o => (World.cell?_of_block (w := W) (a := ⟨w.heap.size, 1, none⟩) (Below.heap_alloc W o _ hbw)).trans q0
                have hfa := fun o => (World.frozen?_of_block (w := W) (a := ⟨w.heap.size, 1, none⟩) (Below.heap_alloc W o _ hbw)).trans z0
                clear hown
                go_wp2_with fail
                go_region_law ((refine step_append_lies _ (by rfl) _ _ _ (by rfl) (w.heap.size + 1) 3 i0 _ 1 8 Try.underlying46 (unhide HI).1 (unhide HI).2.1 (unhide HI).2.2.1 (unhide HI).2.2.2 rfl (by omega) (.slice a q cp) q (cells (spX L E.nv q)) (by rfl) (((unhide HOWN).alloc _).drew) ⟨W.heap.size, 0, none⟩ 1 1 [.int .i64 (y : Int)] (by rfl) (by rfl) (World.news_of_block (cs := #[.int .i64 (y : Int)]) (t := 3) (fr := (0, 0)) (heap_alloc_new W _)) (by simp [Value.oneCell']) (by omega) (by unfold maxLen; omega) (by omega) (by simp; omega) (W.heap.size + 1) (by simp) ?_; intro gg cap w3 hown1 hgrow hat hlt9; have hc5 := (hgrow.cell_far ⟨w.heap.size, 1, none⟩ (by simp; omega) hlb).trans (hca _); have hf5 := (hgrow.frozen_far ⟨w.heap.size, 1, none⟩ (by simp; omega) hlb).trans (hfa _)))
                all_goals
                  have HL2 := hide ((unhide HLW).stepX (unhide HK2) (unhide HX) (by simp) (below_drewN2 (alloc_below _ _) 1) hown1 hgrow hat)
                  clear hown1 hgrow hat hlt9 hc5 hf5 hca hfa
                  go_wp2_with fail
                  go_roundg (gk - 1)
                  case measure => omega
                  case rel => exact ⟨k + 1, _, _, _, by omega, unhide hw1, unhide HL2, unhide HALL2⟩
              · obtain ⟨q, hk2⟩ : ∃ q, k = E.nv + 2 * q + 1 := ⟨(k - E.nv) / 2, by omega⟩
                have hev' : ((k : Int) - (E.nv : Int)).tmod 2 = 1 := by rw [show (k : Int) - (E.nv : Int) = ((k - E.nv : Nat) : Int) by omega, show (2 : Int) = ((2 : Nat) : Int) from rfl, ← Int.ofNat_tmod, show (k - E.nv) % 2 = 1 by omega]; rfl
                have HK2 := hide hk2
                obtain ⟨a, cp, rfl, hown, hlb⟩ := (unhide HLW).trow hk2
                have hq4 : q ≤ 8 := by omega
                clear hk2 hev
                have HOWN := hide hown
                have q0 := (unhide HLW).li.c2
                have z0 := (unhide HLW).li.fz 2
                have hca := fun o => (World.cell?_of_block (w := W) (a := ⟨w.heap.size, 2, none⟩) (Below.heap_alloc W o _ hbw)).trans q0
                have hfa := fun o => (World.frozen?_of_block (w := W) (a := ⟨w.heap.size, 2, none⟩) (Below.heap_alloc W o _ hbw)).trans z0
                clear hown
                go_wp2_with fail
                go_region_law ((refine step_append_lies _ (by rfl) _ _ _ (by rfl) (w.heap.size + 1) 3 i0 _ 1 8 Try.underlying46 (unhide HI).1 (unhide HI).2.1 (unhide HI).2.2.1 (unhide HI).2.2.2 rfl (by omega) (.slice a q cp) q (cells (spT L E.nv q)) (by rfl) (((unhide HOWN).alloc _).drew) ⟨W.heap.size, 0, none⟩ 1 1 [.int .i64 (y : Int)] (by rfl) (by rfl) (World.news_of_block (cs := #[.int .i64 (y : Int)]) (t := 3) (fr := (0, 0)) (heap_alloc_new W _)) (by simp [Value.oneCell']) (by omega) (by unfold maxLen; omega) (by omega) (by simp; omega) (W.heap.size + 1) (by simp) ?_; intro gg cap w3 hown1 hgrow hat hlt9; have hc5 := (hgrow.cell_far ⟨w.heap.size, 2, none⟩ (by simp; omega) hlb).trans (hca _); have hf5 := (hgrow.frozen_far ⟨w.heap.size, 2, none⟩ (by simp; omega) hlb).trans (hfa _)))
                all_goals
                  have HL2 := hide ((unhide HLW).stepT (unhide HK2) (unhide HX) (by simp) (below_drewN2 (alloc_below _ _) 1) hown1 hgrow hat)
                  clear hown1 hgrow hat hlt9 hc5 hf5 hca hfa
                  go_wp2_with fail
                  go_roundg (gk - 1)
                  case measure => omega
                  case rel => exact ⟨k + 1, _, _, _, by omega, unhide hw1, unhide HL2, unhide HALL2⟩
      · have hke : k = m := by omega
        subst hke
        have hlt' : decide ((k : Int) < (k : Int)) = false := by simp
        go_wp2_with fail
        go_ret2
        have HF := unhide HL
        have e1 : min k E.nv = E.nv := by have := unhide HM; omega
        have e2 : (k - E.nv + 1) / 2 = E.np := by have := unhide HM; omega
        have e3 : (k - E.nv) / 2 = E.np := by have := unhide HM; omega
        unfold LK at HF
        rw [e1, e2, e3] at HF
        exact ⟨true, rfl, unhide HBE, fun _ => ⟨⟨unhide HM, unhide HALL⟩, vv, xv, tv, HF⟩, (fun h => by cases h)⟩
  · have hm' : decide ((m : Int) = (E.nv : Int) + 2 * (E.np : Int)) = false := by simp; omega
    go_enter Try.func23, Try.ntmps23
    go_wp2_with fail
    go_ret2
    exact ⟨false, rfl, unhide HB0, (fun h => by cases h), fun _ hs => hm hs.1⟩

end Go.Proofs.Ytegnagenjoelkaa

namespace Go.Proofs.Ytegnagenjoelkaa
open Go.RowKit
variable {E : Env} {w w' w0 w1 wa : World} {st : WS}

/-- The first k variables have the text's levels. -/
def fxB (E : Env) (V : Nat → Nat) : Nat → Bool
  | 0 => true
  | k + 1 => fxB E V k && decide (0 ≤ fixV (bt E.s) E.n k → (V k : Int) = fixV (bt E.s) E.n k)
theorem fxB_iff {V : Nat → Nat} : ∀ k, fxB E V k = true ↔ ∀ j, j < k → 0 ≤ fixV (bt E.s) E.n j → (V j : Int) = fixV (bt E.s) E.n j := by
  intro k
  induction k with
  | zero => simp [fxB]
  | succ k ih =>
    simp only [fxB, Bool.and_eq_true, decide_eq_true_eq]
    rw [ih]
    constructor
    · intro h j hj
      by_cases e : j = k
      · rw [e]; exact h.2
      · exact h.1 j (by omega)
    · intro h
      exact ⟨fun j hj => h j (by omega), h k (by omega)⟩
/-- Does the labelling fit? -/
def fitB (E : Env) (f : Nat) (st : WS) : Bool := fxB E st.V E.nv && (okT E f st.V st.X st.T E.np && decide (bdF E.R st.V st.X (allD E f st.V st.X st.T E.np) (-1) < 0))
theorem fitB_iff {f : Nat} : fitB E f st = true ↔ Fixd E st.V ∧ FitW E f st.V st.X st.T := by
  unfold fitB
  rw [Bool.and_eq_true, Bool.and_eq_true, fxB_iff, decide_eq_true_eq, ← fitW_iff]
  exact Iff.rfl

theorem At0.drewN (h : At0 E w st) (hn : 1 ≤ E.n) (q : Nat) : At0 E (w.drewN q) st := ⟨h.pg.keep hn (fun _ _ => rfl), h.lb, h.rv, h.rx, h.rt⟩

set_option maxHeartbeats 800000 in
set_option maxRecDepth 100000 in
theorem Fits_any {f : Nat} (L : Lattice E.n E.R) (hn : 1 ≤ E.n) (hn8 : E.n ≤ 8) (hnv : E.nv ≤ 8) (hnp : E.np ≤ 4) (hsz : E.s.size ≤ 300) (Q : Parts E f) (h : At0 E w st) (hr : InR E.n E.nv E.np st)
    (hsep : ∀ x low, w.heap.size ≤ x → Sep (wbE E x low)) (hB : E.B ≤ w.heap.size) :
    Calls Try.prog 24 #[.pointer (some ⟨E.pb, 0, none⟩), .pointer (some ⟨E.lb, 0, none⟩)] w fun e w' => e = .returned (.bool (fitB E f st)) ∧ Below E.B w w' := by
  have HA := hide h
  have HR := hide hr
  have HSEP := hide hsep
  obtain ⟨fa, fc, hfs⟩ := sl_form E.nv E.gf E.cf
  obtain ⟨pa, pc, hps⟩ := sl_form E.np E.gp E.cp
  obtain ⟨va, vc, hvs⟩ := sl_form E.nv E.gv E.cv
  obtain ⟨xa, xc, hxs⟩ := sl_form E.np E.gx E.cx
  obtain ⟨ta, tc, hts⟩ := sl_form E.np E.gt E.ct
  have qf := h.pg.cF
  have qp := h.pg.cPr
  have l0 : w.cell? ⟨E.lb, 0, none⟩ = some (sl E.nv E.gv E.cv) := by rw [cell_of_row w _ 0 _ _ _ h.lb]; rfl
  have l1 : w.cell? ⟨E.lb, 1, none⟩ = some (sl E.np E.gx E.cx) := by rw [cell_of_row w _ 1 _ _ _ h.lb]; rfl
  have l2 : w.cell? ⟨E.lb, 2, none⟩ = some (sl E.np E.gt E.ct) := by rw [cell_of_row w _ 2 _ _ _ h.lb]; rfl
  rw [hfs] at qf
  rw [hps] at qp
  rw [hvs] at l0
  rw [hxs] at l1
  rw [hts] at l2
  have HFS := hide hfs
  have HVS := hide hvs
  clear h hr hsep hfs hps hvs hxs hts
  go_enter Try.func24, Try.ntmps24
  go_wp2_with fail
  go_quiet (fail)
  go_wp2_with fail
  go_loopg [5] E.nv (fun g d wr => ∃ (k q : Nat), k + g = E.nv ∧ d = .int .i64 (k : Int) ∧ wr = w.drewN q ∧ fxB E st.V k = true)
  case atStart => exact ⟨0, nq, Nat.zero_add _, rfl, rfl, rfl⟩
  case round =>
    obtain ⟨k, q, hkg, rfl, rfl, hfx⟩ := hrel
    have HFX := hide hfx
    clear hfx
    by_cases hlt : k < E.nv
    · have hlt' : (k : Int) < (E.nv : Int) := by omega
      have e1 := unhide HFS
      have e2 := unhide HVS
      rw [sl_pos (by omega)] at e1 e2
      injection e1 with e1 _ e1c
      injection e2 with e2 _ e2c
      subst e1 e1c e2 e2c
      have f1 := (unhide HA).pg.fx.cell hlt
      have f2 : w.cell? ⟨E.gv, k, none⟩ = some (.int .i64 (st.V k : Int)) := (unhide HA).rv.cell hlt
      have HS := hide (show fxB E st.V (k + 1) = (fxB E st.V k && decide (0 ≤ fixV (bt E.s) E.n k → (st.V k : Int) = fixV (bt E.s) E.n k)) from rfl)
      have hw1 : Hid (Value.int .i64 ((k : Int) + 1) = Value.int .i64 ((k + 1 : Nat) : Int)) := hide (congrArg (Value.int .i64) (by omega))
      have HNO : Hid (fxB E st.V (k + 1) = false → fxB E st.V E.nv = false) := by
        intro hf
        cases he : fxB E st.V E.nv
        · rfl
        · have h1 := (fxB_iff (E := E) (V := st.V) E.nv).1 he
          have h2 := (fxB_iff (E := E) (V := st.V) (k + 1)).2 (fun j hj => h1 j (by omega))
          rw [hf] at h2; cases h2
      generalize fixV (bt E.s) E.n k = x at *
      generalize st.V k = y at *
      by_cases h0 : 0 ≤ x
      · have h0' : decide ((0 : Int) ≤ x) = true := by simpa using h0
        by_cases h1 : (y : Int) = x
        · have h1' : decide ((y : Int) = x) = true := by simpa using h1
          have HT := hide (show fxB E st.V (k + 1) = true by rw [unhide HS, unhide HFX]; simp [h1])
          subst h1
          go_wp2_with fail
          go_quiet (fail)
          go_wp2_with fail
          go_roundg (gk - 1)
          case measure => omega
          case rel => exact ⟨k + 1, q + nq, by omega, unhide hw1, rfl, unhide HT⟩
        · have h1' : decide ((y : Int) = x) = false := by simpa using h1
          have HT := hide (show fxB E st.V (k + 1) = false by rw [unhide HS, unhide HFX]; simp [h0, h1])
          go_wp2_with fail
          go_quiet (fail)
          go_wp2_with fail
          go_ret
          exact ⟨by unfold fitB; rw [unhide HNO (unhide HT)]; rfl, below_drewN2 (below_drewN2 (Below.refl _ _) _) _⟩
      · have h0' : decide ((0 : Int) ≤ x) = false := by simpa using h0
        have HT := hide (show fxB E st.V (k + 1) = true by rw [unhide HS, unhide HFX]; simp [h0])
        go_wp2_with fail
        go_quiet (fail)
        go_wp2_with fail
        go_roundg (gk - 1)
        case measure => omega
        case rel => exact ⟨k + 1, q + nq, by omega, unhide hw1, rfl, unhide HT⟩
    · have hke : k = E.nv := by omega
      have hlt' : decide ((k : Int) < (E.nv : Int)) = false := by simp; omega
      have HFN := hide (show fxB E st.V E.nv = true by rw [← hke]; exact unhide HFX)
      have HAW : Hid (At (wbE E w.heap.size false) ((w.drewN q).alloc (.cells #[.pointer (some ⟨E.pb, 0, none⟩), .pointer (some ⟨E.lb, 0, none⟩), .bool false, .bool false, .bool false, .int .i64 (-1)] 95)) false (rsW st)) := hide (((unhide HA).drewN hn q).walk hn false)
      have HK : Hid (EnvOk (wbE E w.heap.size false)) := hide ⟨unhide HSEP _ _ (Nat.le_refl _), L, hn, hn8, hsz, hnv, hnp⟩
      have HQ : Hid (Parts (wbE E w.heap.size false) f) := hide ⟨Q.main, Q.proc⟩
      go_wp2_with fail
      clear qf qp l0 l1 l2
      refine (All_any (unhide HK) (unhide HQ) _ (rsW st) (unhide HAW) ⟨(unhide HR).V, (unhide HR).X, (unhide HR).T⟩).mono ?_
      rintro e w4 ⟨rfl, hat, hfr⟩
      have HAW2 : Hid (allW (wbE E w.heap.size false) f (rsW st) = (okT E f st.V st.X st.T E.np, putB (rsW st) (bdF E.R st.V st.X (allD E f st.V st.X st.T E.np) (-1)))) := by
        have h1 := okT_same (E := wbE E w.heap.size false) (E' := E) ⟨rfl, rfl, rfl, rfl, rfl, rfl, rfl⟩ f st.V st.X st.T E.np
        have h2 := allD_same (E := wbE E w.heap.size false) (E' := E) ⟨rfl, rfl, rfl, rfl, rfl, rfl, rfl⟩ f st.V st.X st.T E.np
        have h3 := allTo_flat (E := wbE E w.heap.size false) (f := f) rfl (rsW st) E.np
        have h4 : (rsW st).V = st.V := rfl
        have h5 : (rsW st).X = st.X := rfl
        have h6 : (rsW st).T = st.T := rfl
        rw [h4, h5, h6, h1, h2] at h3
        exact h3
      rw [unhide HAW2] at hat
      rw [unhide HAW2]
      have c5 : w4.cell? ⟨w.heap.size, 5, none⟩ = some (.int .i64 (bdF E.R st.V st.X (allD E f st.V st.X st.T E.np) (-1))) := hat.cBad
      have HB4 : Hid (Below E.B w w4) := by
        have b4 : Below E.B (w.drewN q) w4 := hfr.below (unhide HK).S hB
        exact (below_drewN2 (Below.refl _ _) q).trans b4
      clear hat hfr
      have HFB := hide (show fitB E f st = (okT E f st.V st.X st.T E.np && decide (bdF E.R st.V st.X (allD E f st.V st.X st.T E.np) (-1) < 0)) by unfold fitB; rw [unhide HFN]; rfl)
      generalize bdF E.R st.V st.X (allD E f st.V st.X st.T E.np) (-1) = x at *
      simp only
      generalize okT E f st.V st.X st.T E.np = b at *
      cases b
      · go_wp2_with fail
        go_ret
        exact ⟨by rw [unhide HFB]; rfl, unhide HB4⟩
      · by_cases hx : x < 0
        · have hx' : decide (x < 0) = true := by simpa using hx
          go_wp2_with fail
          go_ret
          exact ⟨by rw [unhide HFB, hx']; rfl, unhide HB4⟩
        · have hx' : decide (x < 0) = false := by simpa using hx
          go_wp2_with fail
          go_ret
          exact ⟨by rw [unhide HFB, hx']; rfl, unhide HB4⟩

end Go.Proofs.Ytegnagenjoelkaa

namespace Go.Proofs.Ytegnagenjoelkaa
open Go.RowKit

theorem Fixd.same {E E' : Env} {V : Nat → Nat} (h : Same E E') (k : Fixd E V) : Fixd E' V := by
  intro j hj hf
  have e : fxE E = fxE E' := by unfold fxE; rw [h.s, h.n]
  have := k j (by rw [h.nv]; exact hj) (by rw [e]; exact hf)
  rw [e] at this
  exact this
theorem FitW.same {E E' : Env} {f : Nat} {V X T : Nat → Nat} (h : Same E E') (k : FitW E f V X T) : FitW E' f V X T := by
  refine ⟨fun d hd => ?_, fun j hj => ?_⟩
  · rw [← h.np, ← allD_same h] at hd
    have := k.dem d hd
    rw [h.R] at this
    exact this
  · have := k.thr j (by rw [h.np]; exact hj)
    rw [tdP_same h, h.R, h.n] at this
    exact this
/-- The labelling that a list says. -/
def lsW (L : Nat → Int) (nv np : Nat) : WS := lbS (spV L nv) (spX L nv np) (spT L nv np)
theorem lsW_V {L : Nat → Int} {nv np k : Nat} (h : k < nv) : (lsW L nv np).V k = (L k).toNat := by simp [lsW, lbS, spV, h]
theorem lsW_X {L : Nat → Int} {nv np k : Nat} (h : k < np) : (lsW L nv np).X k = (L (nv + 2 * k)).toNat := by simp [lsW, lbS, spX, h]
theorem lsW_T {L : Nat → Int} {nv np k : Nat} (h : k < np) : (lsW L nv np).T k = (L (nv + 2 * k + 1)).toNat := by simp [lsW, lbS, spT, h]
theorem spOk.inr {E : Env} {m : Nat} {L : Nat → Int} (h : spOk E m L) : InR E.n E.nv E.np (lsW L E.nv E.np) := by
  obtain ⟨h1, h2⟩ := h
  refine ⟨fun k hk => ?_, fun k hk => ?_, fun k hk => ?_⟩
  · rw [lsW_V hk]; have := h2 k (by omega); omega
  · rw [lsW_X hk]; have := h2 (E.nv + 2 * k) (by omega); omega
  · rw [lsW_T hk]; have := h2 (E.nv + 2 * k + 1) (by omega); omega
/-- A list that is below another. -/
theorem flF_le {R : Nat → Nat → Bool} {n nv np : Nat} {st : WS} {L : Nat → Int} (hL : ∀ i, i < nv + 2 * np → 0 ≤ L i) (hV : Bel R n nv st.V (lsW L nv np).V) (hX : Bel R n np st.X (lsW L nv np).X) (hT : Bel R n np st.T (lsW L nv np).T) :
    ∀ i, i < nv + 2 * np → ∃ y : Nat, L i = (y : Int) ∧ Le R n (flF st nv i) y := by
  intro i hi
  refine ⟨(L i).toNat, by have := hL i hi; omega, ?_⟩
  unfold flF
  by_cases h1 : i < nv
  · rw [if_pos h1, ← lsW_V (np := np) h1]; exact hV i h1
  · rw [if_neg h1]
    have hq : (i - nv) / 2 < np := by omega
    by_cases h2 : (i - nv) % 2 = 0
    · rw [if_pos h2]
      have := hX _ hq
      rw [lsW_X hq, show nv + 2 * ((i - nv) / 2) = i by omega] at this
      exact this
    · rw [if_neg h2]
      have := hT _ hq
      rw [lsW_T hq, show nv + 2 * ((i - nv) / 2) + 1 = i by omega] at this
      exact this
theorem least_pure {o s : ByteArray} {n : Nat} {E : Env} (hS : Same E (pE (cl o n) s n)) (K : Known o s n) {m : Nat} {L : Nat → Int} (hok : spOk E m L) (hf : fitB E (s.size + 1) (lsW L E.nv E.np) = true) :
    ckB o s n < 0 ∧ ∀ i, i < m → ∃ y : Nat, L i = (y : Int) ∧ Le (cl o n) n (flF (ckL o s n) (prNv s n) i) y := by
  obtain ⟨h1, h2⟩ := fitB_iff.1 hf
  have f1 := h1.same hS
  have f2 := h2.same hS
  have hin := hok.inr
  have en : E.n = n := hS.n
  have env : E.nv = prNv s n := hS.nv
  have enp : E.np = (prPs s n).length := hS.np
  obtain ⟨g1, g2, g3, g4⟩ := K.low.fit K.A K.Q (fun k hk => by rw [hS.nv.symm] at hk; have := hin.V k hk; rw [hS.n] at this; exact this) (fun k hk => by rw [hS.np.symm] at hk; have := hin.X k hk; rw [hS.n] at this; exact this) (fun k hk => by rw [hS.np.symm] at hk; have := hin.T k hk; rw [hS.n] at this; exact this) f1 f2
  refine ⟨(fitW_iff.1 g1).2, fun i hi => ?_⟩
  have hm := hok.1
  have hL := hok.2
  rw [env, enp] at g2 g3 g4
  exact flF_le (nv := prNv s n) (np := (prPs s n).length) (fun j hj => (hL j (by omega)).1) g2 g3 g4 i (by omega)

theorem fitB_lb {E : Env} {f B gv cv gx cx gt ct : Nat} {L : Nat → Int} : fitB (lbE E B gv cv gx cx gt ct) f (lbS (spV L E.nv) (spX L E.nv E.np) (spT L E.nv E.np)) = fitB E f (lsW L E.nv E.np) := by
  unfold fitB
  have e1 := okT_same (E := lbE E B gv cv gx cx gt ct) (E' := E) ⟨rfl, rfl, rfl, rfl, rfl, rfl, rfl⟩ f
  have e2 := allD_same (E := lbE E B gv cv gx cx gt ct) (E' := E) ⟨rfl, rfl, rfl, rfl, rfl, rfl, rfl⟩ f
  have e3 : ∀ V k, fxB (lbE E B gv cv gx cx gt ct) V k = fxB E V k := by
    intro V k
    induction k with
    | zero => rfl
    | succ k ih => simp only [fxB]; rw [ih]; rfl
  rw [e1, e2, e3]
  rfl

end Go.Proofs.Ytegnagenjoelkaa
