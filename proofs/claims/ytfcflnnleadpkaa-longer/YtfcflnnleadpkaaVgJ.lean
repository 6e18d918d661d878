import Derived.Test.YtfcflnnleadpkaaKgJ
import Derived.Deep.Matrix
namespace Go.Proofs.Ytfcflnnleadpkaa
open Go.RowKit

set_option maxHeartbeats 1600000 in
set_option maxRecDepth 10000 in
theorem Longer_core (H : HushRun) (w : World) (o s : ByteArray) {iv : Value} {inp : Nat → List Nat} {f g : Int} (hI : ∀ n, n ≤ 8 → InpR w iv n inp) (hfg : f ≤ g) :
    Calls Try.prog 12 #[.string o, .string s, iv, .int .i64 f, .int .i64 g] w fun e w' => e = .returned (.bool true) ∧ Below w.heap.size w w' := by
  have HC := hide H
  have HIN := hide hI
  have hfg' : decide (g < f) = false := by simp; omega
  clear H hI
  go_enter Try.func12, Try.ntmps12
  go_wp2_with fail
  refine (Check_any _ _ _).mono ?_
  rintro e w1 ⟨⟨a, p, n, hr, hans⟩, hb1⟩
  have HR := hide hr
  have HB1 := hide hb1
  have HI1 := hide (fun n hn => (unhide HIN n hn).below hb1)
  clear hr hb1
  rcases hans with ⟨ha, rfl⟩ | ⟨rfl, rfl, E, _, _, _, _, rfl⟩
  · have ha' : decide (a = 0) = false := by simpa using ha
    go_wp2_with fail
    refine ((unhide HC).bad (unhide HR) (Or.inl ha) (unhide HI1)).mono ?_
    rintro e w2 ⟨x, hx, rfl, hb2⟩
    have HB2 := hide ((unhide HB1).trans (hb2.mono (unhide HB1).size))
    have hx' : decide (x = 0) = false := by simpa using hx
    clear hb2
    go_wp2_with (first | (go_at_call 16; refine (num_any _ _).mono ?_; rintro e w' ⟨rfl, rfl⟩) | (go_at_call 28; refine (fuelled_any _ _).mono ?_; rintro e w' ⟨rfl, rfl⟩))
    go_ret
    exact ⟨rfl, unhide HB2⟩
  · by_cases hf : 0 ≤ f ∧ f ≤ 10000
    · obtain ⟨f, rfl⟩ : ∃ k : Nat, f = (k : Int) := ⟨f.toNat, by omega⟩
      have hf1 : f ≤ 10000 := by omega
      have HF1 := hide (show decide (0 ≤ (f : Int) ∧ (f : Int) ≤ 10000) = true by simp; omega)
      go_wp2_with fail
      refine ((unhide HC).ok (unhide HR) hf1 (unhide HI1)).mono ?_
      rintro e w2 ⟨xv, rfl, hxv, hb2⟩
      have HB2 := hide ((unhide HB1).trans (hb2.mono (unhide HB1).size))
      have HI2 := hide (fun n hn => (unhide HI1 n hn).below hb2)
      have HXV := hide hxv
      clear hb2 hxv
      by_cases hg : g ≤ 10000
      · obtain ⟨g, rfl⟩ : ∃ k : Nat, g = (k : Int) := ⟨g.toNat, by omega⟩
        have hg1 : g ≤ 10000 := by omega
        have HG1 := hide (show decide (0 ≤ (g : Int) ∧ (g : Int) ≤ 10000) = true by simp; omega)
        go_wp2_with (go_at_call 28; refine (fuelled_any _ _).mono ?_; rintro e w' ⟨rfl, rfl⟩; first | rw [unhide HF1] | rw [unhide HG1])
        refine ((unhide HC).ok (unhide HR) hg1 (unhide HI2)).mono ?_
        rintro e w3 ⟨yv, rfl, hyv, hb3⟩
        have HB3 := hide ((unhide HB2).trans (hb3.mono (unhide HB2).size))
        have HI3 := hide (fun n hn => (unhide HI2 n hn).below hb3)
        have HXV3 := hide ((unhide HXV).below hb3)
        have HYV := hide hyv
        clear hb3 hyv
        go_wp2_with fail
        refine ((unhide HC).ok (f := 0) (unhide HR) (by omega) (unhide HI3)).mono ?_
        rintro e w4 ⟨zv, rfl, hzv, hb4⟩
        have HB4 := hide ((unhide HB3).trans (hb4.mono (unhide HB3).size))
        have HXV4 := hide ((unhide HXV3).below hb4)
        have HYV4 := hide ((unhide HYV).below hb4)
        rw [rnR_zero] at hzv
        rw [rnR_zero]
        obtain ⟨za, zc, rfl, _, _⟩ := hzv
        clear hb4
        obtain ⟨hrd, hpe⟩ : ReadPost o 0 0 n ∧ prE s n = 0 := by
          rcases unhide HR with ⟨_, h⟩ | ⟨_, h, e, _⟩ | ⟨_, _, _, e, _⟩ | ⟨h1, h2, _⟩
          · exact absurd rfl h
          · exact absurd e.symm h
          · omega
          · exact ⟨h1, h2⟩
        have HRD := hide hrd
        have HSANE := hide (rnR_sane (f := g) (known hrd hpe) (unhide HIN n (known hrd hpe).n8).lt)
        have HMORE := hide (rnR_more (o := o) (s := s) (n := n) (inp := inp) (show f ≤ g by omega) hg1)
        have HE1 := hide (rnR_end o s n inp f)
        have HE2 := hide (rnR_end o s n inp g)
        have HL1 := hide (rnR_len o s n inp f)
        have HL2 := hide (rnR_len o s n inp g)
        clear hrd hpe
        obtain ⟨rf, HRF⟩ : ∃ r, Hid (rnR o s n inp f = r) := ⟨_, rfl⟩
        obtain ⟨rg, HRG⟩ : ∃ r, Hid (rnR o s n inp g = r) := ⟨_, rfl⟩
        rw [unhide HRF, unhide HRG] at HMORE
        rw [unhide HRF] at HE1 HL1 HXV4
        rw [unhide HRG] at HE2 HL2 HYV4 HSANE
        rw [unhide HRF, unhide HRG]
        obtain ⟨fs, fe⟩ := rf
        obtain ⟨gs, ge⟩ := rg
        simp only at HMORE HE1 HL1 HXV4 HE2 HL2 HYV4 HSANE
        go_wp2_with fail
        refine (Read_any _ _).mono ?_
        rintro e w5 ⟨⟨c, q, k, hrd, hans⟩, hb5⟩
        obtain ⟨rfl, rfl, rfl⟩ := ReadPost_uniq (unhide HRD) hrd
        have HB5 := hide ((unhide HB4).trans (hb5.mono (unhide HB4).size))
        have HXV5 := hide ((unhide HXV4).below hb5)
        have HYV5 := hide ((unhide HYV4).below hb5)
        clear hrd hb5
        rcases hans with ⟨h0, _⟩ | ⟨_, _, h1, h8, ob, gb, cap, rb, hob, hord, rfl⟩
        · exact absurd rfl h0
        · have HCN := hide hord.cn
          obtain ⟨ya, yc, rfl, _, _⟩ := id (unhide HYV5)
          clear hord
          have he1 : fe ≤ 2 := unhide HE1
          have he2 : ge ≤ 2 := unhide HE2
          have hl2 : gs.out.length ≤ g := unhide HL2
          have q1 : decide ((g : Int) < (gs.out.length : Int)) = false := by simp; omega
          have q2 : decide ((fe : Int) < 0) = false := by simp
          have q3 : decide ((2 : Int) < (fe : Int)) = false := by simp; omega
          have q4 : decide ((ge : Int) < 0) = false := by simp
          have q5 : decide ((2 : Int) < (ge : Int)) = false := by simp; omega
          go_wp2_with (go_at_call 16; refine (num_any _ _).mono ?_; rintro e w' ⟨rfl, rfl⟩)
          refine (valid_any (by omega) (unhide HCN) (unhide HYV5)).mono ?_
          rintro e w6 ⟨x, rfl, hx, qq, rfl⟩
          have hxt : x = true := hx.2 (evL_ok (unhide HSANE))
          subst hxt
          clear hx
          by_cases hfe : fe = 0
          · subst hfe
            have HPRE := hide (show fs.out <+: gs.out by
              rcases unhide HMORE with ⟨h, _⟩ | h
              · exact absurd rfl h
              · exact h.2)
            have HPP := hide (evL_pre (unhide HPRE))
            have hl1 : fs.out.length ≤ 1000000 := by have := unhide HL1; omega
            go_wp2_with fail
            refine (begins_any hl1 ((unhide HXV5).below (below_drewN2 (Below.refl _ _) qq)) ((unhide HYV5).below (below_drewN2 (Below.refl _ _) qq))).mono ?_
            rintro e w7 ⟨x, rfl, hx, hb7⟩
            have hxt : x = true := hx.2 (unhide HPP)
            subst hxt
            have HB7 := hide ((below_drewN2 (unhide HB5) qq).trans (hb7.mono (unhide HB5).size))
            clear hx hb7
            go_wp2_with fail
            go_ret
            exact ⟨rfl, unhide HB7⟩
          · have hfe' : decide ((fe : Int) = 0) = false := by simp; omega
            have HSS := hide (show gs.out = fs.out ∧ ge = fe by
              rcases unhide HMORE with ⟨_, h⟩ | h
              · exact h
              · exact absurd h.1 hfe)
            have hl1 : fs.out.length ≤ 1000000 := by have := unhide HL1; omega
            go_wp2_with fail
            refine (sameEvents_any hl1 ((unhide HXV5).below (below_drewN2 (Below.refl _ _) qq)) ((unhide HYV5).below (below_drewN2 (Below.refl _ _) qq))).mono ?_
            rintro e w7 ⟨x, rfl, hx, hb7⟩
            have hxt : x = true := hx.2 ⟨by rw [(unhide HSS).1], fun _ _ => by rw [(unhide HSS).1]⟩
            subst hxt
            have HB7 := hide ((below_drewN2 (unhide HB5) qq).trans (hb7.mono (unhide HB5).size))
            have hge := (unhide HSS).2
            subst hge
            clear hx hb7
            go_wp2_with fail
            go_ret
            exact ⟨rfl, unhide HB7⟩
      · have HG1 := hide (show decide (0 ≤ g ∧ g ≤ 10000) = false by simp; omega)
        go_wp2_with (first | (go_at_call 16; refine (num_any _ _).mono ?_; rintro e w' ⟨rfl, rfl⟩) | (go_at_call 28; refine (fuelled_any _ _).mono ?_; rintro e w' ⟨rfl, rfl⟩; first | rw [unhide HF1] | rw [unhide HG1]))
        go_ret
        exact ⟨rfl, unhide HB2⟩
    · have HF1 := hide (show decide (0 ≤ f ∧ f ≤ 10000) = false by simpa using hf)
      go_wp2_with fail
      refine ((unhide HC).bad (unhide HR) (Or.inr hf) (unhide HI1)).mono ?_
      rintro e w2 ⟨x, hx, rfl, hb2⟩
      have HB2 := hide ((unhide HB1).trans (hb2.mono (unhide HB1).size))
      have hx' : decide (x = 0) = false := by simpa using hx
      clear hb2 hf
      go_wp2_with (first | (go_at_call 16; refine (num_any _ _).mono ?_; rintro e w' ⟨rfl, rfl⟩) | (go_at_call 28; refine (fuelled_any _ _).mono ?_; rintro e w' ⟨rfl, rfl⟩; rw [unhide HF1]))
      go_ret
      exact ⟨rfl, unhide HB2⟩

set_option maxHeartbeats 1600000 in
set_option maxRecDepth 10000 in
theorem Longer_swap (H : HushRun) (w : World) (o s : ByteArray) {iv : Value} {inp : Nat → List Nat} {f g : Int} (hI : ∀ n, n ≤ 8 → InpR w iv n inp) (hfg : f < g) :
    Calls Try.prog 12 #[.string o, .string s, iv, .int .i64 g, .int .i64 f] w fun e w' => e = .returned (.bool true) ∧ Below w.heap.size w w' := by
  have HC := hide H
  have HIN := hide hI
  have hfg' : decide (f < g) = true := by simp; omega
  clear H hI
  go_enter Try.func12, Try.ntmps12
  go_wp2_with fail
  refine (Check_any _ _ _).mono ?_
  rintro e w1 ⟨⟨a, p, n, hr, hans⟩, hb1⟩
  have HR := hide hr
  have HB1 := hide hb1
  have HI1 := hide (fun n hn => (unhide HIN n hn).below hb1)
  clear hr hb1
  rcases hans with ⟨ha, rfl⟩ | ⟨rfl, rfl, E, _, _, _, _, rfl⟩
  · have ha' : decide (a = 0) = false := by simpa using ha
    go_wp2_with fail
    refine ((unhide HC).bad (unhide HR) (Or.inl ha) (unhide HI1)).mono ?_
    rintro e w2 ⟨x, hx, rfl, hb2⟩
    have HB2 := hide ((unhide HB1).trans (hb2.mono (unhide HB1).size))
    have hx' : decide (x = 0) = false := by simpa using hx
    clear hb2
    go_wp2_with (first | (go_at_call 16; refine (num_any _ _).mono ?_; rintro e w' ⟨rfl, rfl⟩) | (go_at_call 28; refine (fuelled_any _ _).mono ?_; rintro e w' ⟨rfl, rfl⟩))
    go_ret
    exact ⟨rfl, unhide HB2⟩
  · by_cases hf : 0 ≤ f ∧ f ≤ 10000
    · obtain ⟨f, rfl⟩ : ∃ k : Nat, f = (k : Int) := ⟨f.toNat, by omega⟩
      have hf1 : f ≤ 10000 := by omega
      have HF1 := hide (show decide (0 ≤ (f : Int) ∧ (f : Int) ≤ 10000) = true by simp; omega)
      go_wp2_with fail
      refine ((unhide HC).ok (unhide HR) hf1 (unhide HI1)).mono ?_
      rintro e w2 ⟨xv, rfl, hxv, hb2⟩
      have HB2 := hide ((unhide HB1).trans (hb2.mono (unhide HB1).size))
      have HI2 := hide (fun n hn => (unhide HI1 n hn).below hb2)
      have HXV := hide hxv
      clear hb2 hxv
      by_cases hg : g ≤ 10000
      · obtain ⟨g, rfl⟩ : ∃ k : Nat, g = (k : Int) := ⟨g.toNat, by omega⟩
        have hg1 : g ≤ 10000 := by omega
        have HG1 := hide (show decide (0 ≤ (g : Int) ∧ (g : Int) ≤ 10000) = true by simp; omega)
        go_wp2_with (go_at_call 28; refine (fuelled_any _ _).mono ?_; rintro e w' ⟨rfl, rfl⟩; first | rw [unhide HF1] | rw [unhide HG1])
        refine ((unhide HC).ok (unhide HR) hg1 (unhide HI2)).mono ?_
        rintro e w3 ⟨yv, rfl, hyv, hb3⟩
        have HB3 := hide ((unhide HB2).trans (hb3.mono (unhide HB2).size))
        have HI3 := hide (fun n hn => (unhide HI2 n hn).below hb3)
        have HXV3 := hide ((unhide HXV).below hb3)
        have HYV := hide hyv
        clear hb3 hyv
        go_wp2_with fail
        refine ((unhide HC).ok (f := 0) (unhide HR) (by omega) (unhide HI3)).mono ?_
        rintro e w4 ⟨zv, rfl, hzv, hb4⟩
        have HB4 := hide ((unhide HB3).trans (hb4.mono (unhide HB3).size))
        have HXV4 := hide ((unhide HXV3).below hb4)
        have HYV4 := hide ((unhide HYV).below hb4)
        rw [rnR_zero] at hzv
        rw [rnR_zero]
        obtain ⟨za, zc, rfl, _, _⟩ := hzv
        clear hb4
        obtain ⟨hrd, hpe⟩ : ReadPost o 0 0 n ∧ prE s n = 0 := by
          rcases unhide HR with ⟨_, h⟩ | ⟨_, h, e, _⟩ | ⟨_, _, _, e, _⟩ | ⟨h1, h2, _⟩
          · exact absurd rfl h
          · exact absurd e.symm h
          · omega
          · exact ⟨h1, h2⟩
        have HRD := hide hrd
        have HSANE := hide (rnR_sane (f := g) (known hrd hpe) (unhide HIN n (known hrd hpe).n8).lt)
        have HMORE := hide (rnR_more (o := o) (s := s) (n := n) (inp := inp) (show f ≤ g by omega) hg1)
        have HE1 := hide (rnR_end o s n inp f)
        have HE2 := hide (rnR_end o s n inp g)
        have HL1 := hide (rnR_len o s n inp f)
        have HL2 := hide (rnR_len o s n inp g)
        clear hrd hpe
        obtain ⟨rf, HRF⟩ : ∃ r, Hid (rnR o s n inp f = r) := ⟨_, rfl⟩
        obtain ⟨rg, HRG⟩ : ∃ r, Hid (rnR o s n inp g = r) := ⟨_, rfl⟩
        rw [unhide HRF, unhide HRG] at HMORE
        rw [unhide HRF] at HE1 HL1 HXV4
        rw [unhide HRG] at HE2 HL2 HYV4 HSANE
        rw [unhide HRF, unhide HRG]
        obtain ⟨fs, fe⟩ := rf
        obtain ⟨gs, ge⟩ := rg
        simp only at HMORE HE1 HL1 HXV4 HE2 HL2 HYV4 HSANE
        go_wp2_with fail
        refine (Read_any _ _).mono ?_
        rintro e w5 ⟨⟨c, q, k, hrd, hans⟩, hb5⟩
        obtain ⟨rfl, rfl, rfl⟩ := ReadPost_uniq (unhide HRD) hrd
        have HB5 := hide ((unhide HB4).trans (hb5.mono (unhide HB4).size))
        have HXV5 := hide ((unhide HXV4).below hb5)
        have HYV5 := hide ((unhide HYV4).below hb5)
        clear hrd hb5
        rcases hans with ⟨h0, _⟩ | ⟨_, _, h1, h8, ob, gb, cap, rb, hob, hord, rfl⟩
        · exact absurd rfl h0
        · have HCN := hide hord.cn
          obtain ⟨ya, yc, rfl, _, _⟩ := id (unhide HYV5)
          clear hord
          have he1 : fe ≤ 2 := unhide HE1
          have he2 : ge ≤ 2 := unhide HE2
          have hl2 : gs.out.length ≤ g := unhide HL2
          have q1 : decide ((g : Int) < (gs.out.length : Int)) = false := by simp; omega
          have q2 : decide ((fe : Int) < 0) = false := by simp
          have q3 : decide ((2 : Int) < (fe : Int)) = false := by simp; omega
          have q4 : decide ((ge : Int) < 0) = false := by simp
          have q5 : decide ((2 : Int) < (ge : Int)) = false := by simp; omega
          go_wp2_with (go_at_call 16; refine (num_any _ _).mono ?_; rintro e w' ⟨rfl, rfl⟩)
          refine (valid_any (by omega) (unhide HCN) (unhide HYV5)).mono ?_
          rintro e w6 ⟨x, rfl, hx, qq, rfl⟩
          have hxt : x = true := hx.2 (evL_ok (unhide HSANE))
          subst hxt
          clear hx
          by_cases hfe : fe = 0
          · subst hfe
            have HPRE := hide (show fs.out <+: gs.out by
              rcases unhide HMORE with ⟨h, _⟩ | h
              · exact absurd rfl h
              · exact h.2)
            have HPP := hide (evL_pre (unhide HPRE))
            have hl1 : fs.out.length ≤ 1000000 := by have := unhide HL1; omega
            go_wp2_with fail
            refine (begins_any hl1 ((unhide HXV5).below (below_drewN2 (Below.refl _ _) qq)) ((unhide HYV5).below (below_drewN2 (Below.refl _ _) qq))).mono ?_
            rintro e w7 ⟨x, rfl, hx, hb7⟩
            have hxt : x = true := hx.2 (unhide HPP)
            subst hxt
            have HB7 := hide ((below_drewN2 (unhide HB5) qq).trans (hb7.mono (unhide HB5).size))
            clear hx hb7
            go_wp2_with fail
            go_ret
            exact ⟨rfl, unhide HB7⟩
          · have hfe' : decide ((fe : Int) = 0) = false := by simp; omega
            have HSS := hide (show gs.out = fs.out ∧ ge = fe by
              rcases unhide HMORE with ⟨_, h⟩ | h
              · exact h
              · exact absurd h.1 hfe)
            have hl1 : fs.out.length ≤ 1000000 := by have := unhide HL1; omega
            go_wp2_with fail
            refine (sameEvents_any hl1 ((unhide HXV5).below (below_drewN2 (Below.refl _ _) qq)) ((unhide HYV5).below (below_drewN2 (Below.refl _ _) qq))).mono ?_
            rintro e w7 ⟨x, rfl, hx, hb7⟩
            have hxt : x = true := hx.2 ⟨by rw [(unhide HSS).1], fun _ _ => by rw [(unhide HSS).1]⟩
            subst hxt
            have HB7 := hide ((below_drewN2 (unhide HB5) qq).trans (hb7.mono (unhide HB5).size))
            have hge := (unhide HSS).2
            subst hge
            clear hx hb7
            go_wp2_with fail
            go_ret
            exact ⟨rfl, unhide HB7⟩
      · have HG1 := hide (show decide (0 ≤ g ∧ g ≤ 10000) = false by simp; omega)
        go_wp2_with (first | (go_at_call 16; refine (num_any _ _).mono ?_; rintro e w' ⟨rfl, rfl⟩) | (go_at_call 28; refine (fuelled_any _ _).mono ?_; rintro e w' ⟨rfl, rfl⟩; first | rw [unhide HF1] | rw [unhide HG1]))
        go_ret
        exact ⟨rfl, unhide HB2⟩
    · have HF1 := hide (show decide (0 ≤ f ∧ f ≤ 10000) = false by simpa using hf)
      go_wp2_with fail
      refine ((unhide HC).bad (unhide HR) (Or.inr hf) (unhide HI1)).mono ?_
      rintro e w2 ⟨x, hx, rfl, hb2⟩
      have HB2 := hide ((unhide HB1).trans (hb2.mono (unhide HB1).size))
      have hx' : decide (x = 0) = false := by simpa using hx
      clear hb2 hf
      go_wp2_with (first | (go_at_call 16; refine (num_any _ _).mono ?_; rintro e w' ⟨rfl, rfl⟩) | (go_at_call 28; refine (fuelled_any _ _).mono ?_; rintro e w' ⟨rfl, rfl⟩; rw [unhide HF1]))
      go_ret
      exact ⟨rfl, unhide HB2⟩

theorem Longer_walk (H : HushRun) (w : World) (o s : ByteArray) {iv : Value} {inp : Nat → List Nat} (f g : Int) (hI : ∀ n, n ≤ 8 → InpR w iv n inp) :
    Calls Try.prog 12 #[.string o, .string s, iv, .int .i64 f, .int .i64 g] w fun e w' => e = .returned (.bool true) ∧ Below w.heap.size w w' := by
  by_cases h : f ≤ g
  · exact Longer_core H w o s hI h
  · exact Longer_swap H w o s hI (by omega)

end Go.Proofs.Ytfcflnnleadpkaa

namespace Go.Proofs.Ytfcflnnleadpkaa
open Go.RowKit
variable {w w' : World}

/-- A level's list in memory. -/
def RowIs (w : World) (u : Value) (L : List Nat) : Prop := ∃ (ra : Option Addr) (rl rc : Nat) (Z : Nat → Int), u = .slice ra rl rc ∧ (∀ j, j < rl → ∃ rad, ra = some rad ∧ w.cell? (rad.add j) = some (.int .i64 (Z j))) ∧ L = (List.range rl).map (fun j => (Z j % 65536).toNat)
theorem RowIs.below {u : Value} {L : List Nat} (h : RowIs w u L) (hb : Below w.heap.size w w') : RowIs w' u L := by
  obtain ⟨ra, rl, rc, Z, e, hc, eL⟩ := h
  refine ⟨ra, rl, rc, Z, e, fun j hj => ?_, eL⟩
  obtain ⟨rad, e1, c1⟩ := hc j hj
  exact ⟨rad, e1, (World.cell?_of_block (w := w) (hb.block _ (World.block_lt_of_cell? w _ c1))).trans c1⟩
theorem RowIs.nil : RowIs w (.slice none 0 0) [] := ⟨none, 0, 0, fun _ => 0, rfl, fun j hj => by omega, rfl⟩
/-- Inputs that were put together: m lists. -/
theorem InpR.own {B m n : Nat} {ty : TypeId} {v : Value} {Ls : List Value} {inp : Nat → List Nat} (h : w.ownsRow B ty 1 v m Ls) (hr : ∀ d, d < m → ∃ u, Ls[d]? = some u ∧ RowIs w u (inp d)) (hz : ∀ d, m ≤ d → inp d = []) : InpR w v n inp := by
  rcases h.2 with ⟨rfl, e1⟩ | ⟨g, cap, cur, rfl, hb, hg, _, _, _, ht⟩
  · exact ⟨none, 0, 0, rfl, fun d _ => ⟨fun h => by omega, fun _ => hz d (by omega)⟩⟩
  · refine ⟨_, m, cap, rfl, fun d _ => ⟨fun hd => ?_, hz d⟩⟩
    obtain ⟨u, hu, ra, rl, rc, Z, rfl, hc, eL⟩ := hr d hd
    refine ⟨⟨g, 0, none⟩, ra, rl, rc, Z, rfl, ?_, hc, eL⟩
    have e : (Addr.mk g 0 none).add d = ⟨g, d, none⟩ := by simp [Addr.add]; omega
    have h2 : (cur.toList.take (m * 1))[d]? = some (.slice ra rl rc) := by rw [ht]; exact hu
    rw [List.getElem?_take_of_lt (by omega)] at h2
    simp only [Array.getElem?_toList] at h2
    rw [e, cell_of_row w g d cur _ _ hg, h2]
/-- A list of what came in. -/
theorem InpR.row {iv : Value} {n d : Nat} {inp : Nat → List Nat} (h : InpR w iv n inp) (hd : d < n) : ∃ a len cap, iv = .slice a len cap ∧ ((d < len → ∃ ad u, a = some ad ∧ w.cell? (ad.add d) = some u ∧ RowIs w u (inp d)) ∧ (len ≤ d → inp d = [])) := by
  obtain ⟨a, len, cap, e, h⟩ := h
  refine ⟨a, len, cap, e, fun hl => ?_, (h d hd).2⟩
  obtain ⟨ad, ra, rl, rc, Z, e1, c1, c2, e2⟩ := (h d hd).1 hl
  exact ⟨ad, _, e1, c1, ra, rl, rc, Z, rfl, c2, e2⟩

/-- Two runs' inputs that are the same as far as a run can take. -/
theorem rnR_deaf {o s : ByteArray} {n : Nat} {inp inp' : Nat → List Nat} {f : Nat} (h : ∀ d, d < n → ∀ j, j < f → (inp d)[j]? = (inp' d)[j]?) : rnR o s n inp f = rnR o s n inp' f := by
  refine exS_deaf _ _ _ _ (fun d j hj => ?_)
  have hj' : j < f := by
    have : j < 0 + f := hj
    omega
  unfold inpN
  split
  · rename_i hd; exact h d hd j hj'
  · rfl

theorem info_rowsI : (Try.prog.info? 46).map (fun i => (i.zero, i.size, i.bytes)) = some (some (.slice none 0 0), 1, 24) := by kernel_rfl

end Go.Proofs.Ytfcflnnleadpkaa

namespace Go.Proofs.Ytfcflnnleadpkaa
open Go.RowKit
variable {w w' : World}

/-- The inputs cut at the fuel, and one list more. -/
def cutI (n f : Nat) (inp : Nat → List Nat) (E : List Nat) (d : Nat) : List Nat := if d < n then (inp d).take f else if d = n then E else []
theorem cutI_in {n f : Nat} {inp : Nat → List Nat} {E : List Nat} {d : Nat} (h : d < n) : cutI n f inp E d = (inp d).take f := by unfold cutI; rw [if_pos h]
theorem cutI_at {n f : Nat} {inp : Nat → List Nat} {E : List Nat} : cutI n f inp E n = E := by unfold cutI; rw [if_neg (by omega), if_pos rfl]
theorem cutI_out {n f : Nat} {inp : Nat → List Nat} {E : List Nat} {d : Nat} (h : n + 1 ≤ d) : cutI n f inp E d = [] := by unfold cutI; rw [if_neg (by omega), if_neg (by omega)]
theorem rnR_cut {o s : ByteArray} {n f : Nat} {inp : Nat → List Nat} {E : List Nat} : rnR o s n (cutI n f inp E) f = rnR o s n inp f :=
  rnR_deaf (fun d hd j hj => by rw [cutI_in hd, List.getElem?_take_of_lt hj])
/-- A list that is cut. -/
theorem RowIs.cut {ra : Option Addr} {rl rc f : Nat} {L : List Nat} (h : RowIs w (.slice ra rl rc) L) (hf : f < rl) : RowIs w (.slice ra f rc) (L.take f) := by
  obtain ⟨ra', rl', rc', Z, e, hc, eL⟩ := h
  injection e with e1 e2 e3
  subst e1 e2 e3
  refine ⟨ra, f, rc, Z, rfl, fun j hj => hc j (by omega), ?_⟩
  rw [eL, ← List.map_take, List.take_range, Nat.min_eq_left (by omega)]
theorem RowIs.whole {ra : Option Addr} {rl rc f : Nat} {L : List Nat} (h : RowIs w (.slice ra rl rc) L) (hf : rl ≤ f) : L.take f = L := by
  obtain ⟨ra', rl', rc', Z, e, hc, eL⟩ := h
  injection e with e1 e2 e3
  subst e1 e2 e3
  rw [eL, List.take_of_length_le (by simp; omega)]

theorem keepC {a : Addr} {v : Value} (hb : Below w.heap.size w w') (c : w.cell? a = some v) : w'.cell? a = some v :=
  (World.cell?_of_block (w := w) (hb.block _ (World.block_lt_of_cell? w _ c))).trans c
/-- The first lists. -/
def RowsTo (w : World) (Ls : List Value) (m : Nat) (I : Nat → List Nat) : Prop := ∀ d, d < m → ∃ u, Ls[d]? = some u ∧ RowIs w u (I d)
theorem rows_app {Ls : List Value} {m : Nat} {I : Nat → List Nat} {u : Value} (hl : Ls.length = m) (h : RowsTo w Ls m I) (hu : RowIs w u (I m)) : RowsTo w (Ls ++ [u]) (m + 1) I := by
  intro d hd
  by_cases e : d < m
  · obtain ⟨v, h1, h2⟩ := h d e
    exact ⟨v, by rw [List.getElem?_append_left (by omega)]; exact h1, h2⟩
  · have : d = m := by omega
    subst this
    exact ⟨u, by rw [← hl]; simp, hu⟩
/-- A list with room: no list is longer than what it may hold. -/
def Room (w : World) (iv : Value) : Prop := ∀ ad len cap d ra rl rc, iv = .slice (some ad) len cap → d < len → w.cell? (ad.add d) = some (.slice ra rl rc) → rl ≤ rc

end Go.Proofs.Ytfcflnnleadpkaa

namespace Go.Proofs.Ytfcflnnleadpkaa
open Go.RowKit Go.ChangeShapes Go.WideShapes

/-- Inputs as they come in. -/
theorem rows_open {H : Type} {enc : TypeId × Value → H} {W : World} {a : Option Addr} {len cap fu : Nat} {x : DataW H × List MemPlace} (hf : DataW.trod enc Try.prog W 0 (fun _ => true) true fu 63 (Value.cells (.slice a len cap)).toList = some x) :
    ∃ inp, (∀ n, n ≤ 8 → InpR W (.slice a len cap) n inp) ∧ Room W (.slice a len cap) := by
  rcases Go.Deep.open_int_rows Try.underlying63 Try.underlying46 Try.underlying3 (show Try.prog.cellsOf 46 = 1 by kernel_rfl) (show Try.prog.cellsOf 3 = 1 by kernel_rfl) hf with ⟨hcs, _⟩ | ⟨a', len', cap', A, L, C, Z, hcs, _, hl, _, _, hr⟩
  · simp [Value.cells] at hcs
    obtain ⟨rfl, rfl, rfl⟩ := hcs
    exact ⟨fun _ => [], fun n _ => ⟨none, 0, 0, rfl, fun d _ => ⟨fun h => by omega, fun _ => rfl⟩⟩, fun ad len cap d ra rl rc e => by cases e⟩
  · simp [Value.cells] at hcs
    obtain ⟨rfl, rfl, rfl⟩ := hcs
    refine ⟨fun d => if d < len then (List.range (L d)).map (fun j => ((Z d).getD j 0 % 65536).toNat) else [], fun n _ => ⟨some a', len, cap, rfl, fun d _ => ⟨fun h => ?_, fun h => if_neg (by omega)⟩⟩, fun ad len' cap' d ra rl rc e hd hc => ?_⟩
    · obtain ⟨h1, h2, h3, h4, _, h6, h7⟩ := hr d (by omega)
      refine ⟨a', A d, L d, C d, fun j => (Z d).getD j 0, rfl, h1, fun j hj => ?_, if_pos h⟩
      cases hA : A d with
      | none => have := h6 hA; omega
      | some rad => exact ⟨rad, rfl, (h7 rad hA).2 j (by omega)⟩
    · injection e with e1 e2 e3
      injection e1 with e1
      subst e1 e2 e3
      obtain ⟨h1, h2, _⟩ := hr d (by omega)
      rw [h1] at hc
      injection hc with hc
      injection hc with c1 c2 c3
      omega
/-- A list of numbers as it comes in. -/
theorem row_open {H : Type} {enc : TypeId × Value → H} {W : World} {a : Option Addr} {len cap fu : Nat} {x : DataW H × List MemPlace} (hf : DataW.trod enc Try.prog W 0 (fun _ => true) true fu 46 (Value.cells (.slice a len cap)).toList = some x) :
    ∃ L, RowIs W (.slice a len cap) L := by
  rcases open_ints Try.underlying46 Try.underlying3 (show Try.prog.cellsOf 3 = 1 by kernel_rfl) hf with ⟨hcs, _⟩ | ⟨a', len', cap', zs, hcs, _, hl, _, hz, _, hcell, _⟩
  · simp [Value.cells] at hcs
    obtain ⟨rfl, rfl, rfl⟩ := hcs
    exact ⟨[], RowIs.nil⟩
  · simp [Value.cells] at hcs
    obtain ⟨rfl, rfl, rfl⟩ := hcs
    simp only [if_true] at hz
    exact ⟨_, some a', len, cap, fun i => zs.getD i 0, rfl, fun j hj => ⟨a', rfl, hcell j (by omega)⟩, rfl⟩

end Go.Proofs.Ytfcflnnleadpkaa
