import Derived.Test.YtfcflnnleadpkaaGreatKbJ
import Derived.Test.YtfcflnnleadpkaaGreatVaJ
namespace Go.Proofs.YtfcflnnleadpkaaGreat
open Go.RowKit

variable {G : RD} {F : Nat} {w : World} {ov : Value} {st : RS} {k : Nat}

set_option maxHeartbeats 1600000 in
set_option maxRecDepth 100000 in
theorem pRead (K : QK G F) (h : PAt G w ov st k) (hi : RunI G.D.n st) {x y : Int} {a b d v : Nat} (hx : x = (a : Int)) (hy : y = (b : Int)) (hd : bt G.D.s a - 48 = (d : Int)) (hdn : d < G.D.n) (hv : bt G.D.s b - 97 = (v : Int)) (hvn : v < G.D.nv) (has : a < G.D.s.size) (hbs : b < G.D.s.size) :
    Calls Tryz.prog 55 #[.pointer (some ⟨G.b, 0, none⟩), .int .i64 x, .int .i64 y] w (PrAt G k (rdW st d v ((G.inp d)[st.tk d]?))) := by
  subst hx hy
  have HH := hide h
  have hn8 := K.K.O.n8
  have hnv8 := K.K.O.nv
  have k1 := h.ci
  have t1 := h.ck (d := d) (by omega)
  have htk : st.tk d ≤ 10000 := by have := hi.tk d; omega
  have hd8 : (d : Int) < 8 := by omega
  have hv8 : (v : Int) < 8 := by omega
  have h48 : 48 ≤ bt G.D.s a := by omega
  have h97 : 97 ≤ bt G.D.s b := by omega
  have HDD := hide hd
  have HVV := hide hv
  obtain ⟨ia, len, cap, hiv, hin⟩ := K.I.below h.bel
  rw [hiv] at k1
  have HIN := hide hin
  clear hin h hi hiv hd hv
  by_cases hl : d < len
  · obtain ⟨ad, ra, rl, rc, Z, rfl, c1, c2, e2⟩ := (unhide HIN d hdn).1 hl
    have HC2 := hide c2
    have hl' : decide ((len : Int) ≤ (d : Int)) = false := by simp; omega
    have hl2 : (d : Int) < (len : Int) := by omega
    by_cases ht : st.tk d < rl
    · obtain ⟨rad, rfl, c3⟩ := c2 (st.tk d) ht
      have ht' : decide ((rl : Int) ≤ (st.tk d : Int)) = false := by simp; omega
      have ht2 : (st.tk d : Int) < (rl : Int) := by omega
      have HE := hide (show rdW st d v ((G.inp d)[st.tk d]?) = ({ st with V := setF st.V v (Z (st.tk d) % 65536).toNat, tk := setF st.tk d (st.tk d + 1) }, 1) by
        rw [e2, List.getElem?_map, List.getElem?_range ht]; rfl)
      clear c2 e2
      rw [unhide HE]
      go_enter Tryz.func55, Tryz.ntmps55
      go_wp2_with fail
      refine (pDigit _ _ 0 _ _ (unhide HH).tx has h48).mono ?_
      rintro e w ⟨rfl, rfl⟩
      rw [unhide HDD]
      go_wp2_with fail
      go_quiet (fail)
      obtain ⟨W, HW⟩ : ∃ W, Hid (w.drewN nq = W) := ⟨_, rfl⟩
      rw [unhide HW]
      have HHW : Hid (PAt G W ov st k) := by rw [← unhide HW]; exact (unhide HH).drewN nq
      have k1W : W.cell? ⟨G.b, 912, none⟩ = some (.slice (some ad) len cap) := by rw [← unhide HW]; exact k1
      have t1W := (unhide HHW).ck (d := d) (by omega)
      have c1W : W.cell? (ad.add d) = some (.slice (some rad) rl rc) := by rw [← unhide HW]; exact c1
      have c3W : W.cell? (rad.add (st.tk d)) = some (.int .i64 (Z (st.tk d))) := by rw [← unhide HW]; exact c3
      have z1W := (unhide HHW).fz (913 + d)
      have z2W := (unhide HHW).fz (921 + v)
      have v1W := (unhide HHW).ca (v := v) (by omega)
      clear k1 t1 c1 c3
      go_wp2_with fail
      refine (pVar _ _ 0 _ _ (unhide HHW).tx hbs h97).mono ?_
      rintro e W ⟨rfl, rfl⟩
      rw [unhide HVV]
      have HA1 := hide ((unhide HHW).setV K.b0 (v := v) (x := mdV (Z (st.tk d))) (by omega)).drew
      go_wp2_with fail
      go_region_with (go_at_call 89; refine (pMod _ _).mono ?_; rintro e w'' ⟨rfl, rfl⟩)
      all_goals
        clear k1W t1W c1W c3W z1W z2W v1W
        generalize (W.setCell ⟨G.b, 921 + v, none⟩ (.int .i64 (mdV (Z (st.tk d)) : Int))).drew = W2 at *
        have t2 : W2.cell? ⟨G.b, 913 + d, none⟩ = some (.int .i64 (st.tk d : Int)) := (unhide HA1).ck (d := d) (by omega)
        have z2 := (unhide HA1).fz (913 + d)
        have HA3 : Hid (PAt G (W2.setCell ⟨G.b, 913 + d, none⟩ (.int .i64 ((st.tk d : Int) + 1))) ov { st with V := setF st.V v (mdV (Z (st.tk d))), tk := setF st.tk d (st.tk d + 1) } k) := hide ((unhide HA1).setTk K.b0 (d := d) (x := st.tk d + 1) (by omega))
        go_wp2_with fail
        go_region
        all_goals
          go_wp2_with fail
          go_ret
          exact ⟨rfl, ov, (unhide HA3).drew⟩
    · have ht' : decide ((rl : Int) ≤ (st.tk d : Int)) = true := by simp; omega
      have HE := hide (show rdW st d v ((G.inp d)[st.tk d]?) = (st, 2) by rw [e2, List.getElem?_eq_none (by simp; omega)]; rfl)
      clear c2 e2
      rw [unhide HE]
      go_enter Tryz.func55, Tryz.ntmps55
      go_wp2_with fail
      refine (pDigit _ _ 0 _ _ (unhide HH).tx has h48).mono ?_
      rintro e w' ⟨rfl, rfl⟩
      rw [unhide HDD]
      go_wp2_with fail
      go_quiet (fail)
      go_wp2_with fail
      go_ret
      exact ⟨rfl, ov, (unhide HH).drewN _⟩
  · have hl' : decide ((len : Int) ≤ (d : Int)) = true := by simp; omega
    have HE := hide (show rdW st d v ((G.inp d)[st.tk d]?) = (st, 2) by rw [(unhide HIN d hdn).2 (by omega)]; rfl)
    rw [unhide HE]
    go_enter Tryz.func55, Tryz.ntmps55
    go_wp2_with fail
    refine (pDigit _ _ 0 _ _ (unhide HH).tx has h48).mono ?_
    rintro e w' ⟨rfl, rfl⟩
    rw [unhide HDD]
    go_wp2_with fail
    go_quiet (fail)
    go_wp2_with fail
    go_ret
    exact ⟨rfl, ov, (unhide HH).drewN _⟩

set_option maxHeartbeats 1600000 in
set_option maxRecDepth 100000 in
theorem pPut (K : QK G F) (h : PAt G w ov st k) (hi : RunI G.D.n st) {x y : Int} {a b d j f : Nat} (hx : x = (a : Int)) (hy : y = (b : Int)) (hd : bt G.D.s a - 48 = (d : Int)) (has : a < G.D.s.size) (hs : scE (bt G.D.s) G.D.nv f b = (j, false)) (ht : tbE (bt G.D.s) G.D.nv G.D.T f b) :
    Calls Tryz.prog 56 #[.pointer (some ⟨G.b, 0, none⟩), .int .i64 x, .int .i64 y] w (PrAt G k (outW st d (evE (bt G.D.s) st.V f b))) := by
  subst hx hy
  have HH := hide h
  have HV := hide hi.sane.V
  have hol := hi.out
  have HS := hide hs
  have HT := hide ht
  have h48 : 48 ≤ bt G.D.s a := by omega
  have HDD := hide hd
  obtain ⟨i0, hi0, hz0, hz1, hz2⟩ := info_parts info_hevent
  have HI := hide (And.intro hi0 (And.intro hz0 (And.intro hz1 hz2)))
  clear h hi hs ht hd hi0 hz0 hz1 hz2
  obtain ⟨r, HR⟩ : ∃ r, Hid (evE (bt G.D.s) st.V f b = r) := ⟨_, rfl⟩
  rw [unhide HR]
  go_enter Tryz.func56, Tryz.ntmps56
  go_wp2_with fail
  refine (pVal K.K.O f w ov st k b j (unhide HH) (unhide HV) (unhide HS) (unhide HT)).mono ?_
  rintro e w1 ⟨rfl, hb1⟩
  rw [unhide HR]
  have HH1 := hide ((unhide HH).below hb1)
  clear hb1
  cases r with
  | none =>
    simp only [tupV]
    go_wp2_with fail
    go_ret
    exact ⟨rfl, ov, unhide HH1⟩
  | some y =>
    simp only [tupV]
    go_wp2_with fail
    refine (pDigit _ _ 0 _ _ (unhide HH1).tx has h48).mono ?_
    rintro e w1 ⟨rfl, rfl⟩
    rw [unhide HDD]
    have p4 := (unhide HH1).co
    have z4 := (unhide HH1).fz 931
    have hrbl := (unhide HH1).lt
    have hbl := (unhide HH1).bel.size
    have HO := hide (unhide HH1).out
    have HKEEP := hide (show ∀ w3 : World, (w1.alloc (.cells #[.int .i64 (d : Int), .int .i64 (y : Int)] 85)).grownBy w3 ov.ownBlock → w3.cell? ⟨G.b, 931, none⟩ = some ov ∧ w3.frozen? ⟨G.b, 931, none⟩ = false by
      intro w3 hg
      have hn1 : some G.b ≠ ov.ownBlock := fun e => (unhide HH1).on e.symm rfl
      have hab : Below w1.heap.size w1 (w1.alloc (.cells #[.int .i64 (d : Int), .int .i64 (y : Int)] 85)) := alloc_below _ _
      exact ⟨((far hg hrbl (by simp) hab hn1 931).1).trans p4, ((far hg hrbl (by simp) hab hn1 931).2).trans z4⟩)
    go_wp2_with (at_builtin; refine wpList_append_lies _ rfl _ _ 23 rfl G.w0.heap.size 85 i0 (.agg #[.int .i64 0, .int .i64 0]) 2 16 Tryz.underlying23 (unhide HI).1 (unhide HI).2.1 (unhide HI).2.2.1 (unhide HI).2.2.2 rfl (by decide) _ st.out.length (evC st.out) rfl ((unhide HO).alloc _) ⟨w1.heap.size, 0, none⟩ 1 1 [.int .i64 (d : Int), .int .i64 (y : Int)] rfl rfl (World.news_of_block (cs := #[.int .i64 (d : Int), .int .i64 (y : Int)]) (t := 85) (fr := (0, 0)) (heap_alloc_new w1 _)) (by simp [Value.oneCell']) (by omega) (by unfold maxLen; omega) (by omega) (by simp; omega) (w1.heap.size + 1) (by simp) ?_)
    intro gg cap w3 hown1 hgrow hat hlt9
    have hc5 := (unhide HKEEP _ hgrow).1
    have hf5 := (unhide HKEEP _ hgrow).2
    have HA2 := hide ((unhide HH1).push K.b0 (by simp) (alloc_below _ _) hown1 hgrow)
    clear hown1 hgrow hat hlt9
    go_wp2_with fail
    go_ret
    exact ⟨rfl, _, unhide HA2⟩

end Go.Proofs.YtfcflnnleadpkaaGreat
