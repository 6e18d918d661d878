import Derived.Test.YtfcflnnleadpkaaYfJ
import Derived.Test.YtfcflnnleadpkaaYcJ
import Derived.Deep.LoopGhost
import Derived.Deep.QuietTactic
import Derived.BigQuiet
import Derived.Test.YtfcflnnleadpkaaTmJ
namespace Go.Proofs.Ytfcflnnleadpkaa
open Go.RowKit

theorem CkPost_read {o s : ByteArray} {a p : Int} {n : Nat} (h : CkPost o s a p n) : (∃ b q, ReadPost o b q n ∧ b ≠ 0 ∧ a = b ∧ p = q) ∨ (ReadPost o 0 0 n ∧ prE s n ≠ 0 ∧ a = prE s n ∧ p = prP s n) ∨ (ReadPost o 0 0 n ∧ prE s n = 0 ∧ ((0 ≤ ckB o s n ∧ a = 6) ∨ (ckB o s n < 0 ∧ a = 0))) := by
  rcases h with ⟨h1, h2⟩ | ⟨h1, h2, h3, h4⟩ | ⟨h1, h2, h3, h4, _⟩ | ⟨h1, h2, h3, h4, _⟩
  · exact Or.inl ⟨a, p, h1, h2, rfl, rfl⟩
  · exact Or.inr (Or.inl ⟨h1, h2, h3, h4⟩)
  · exact Or.inr (Or.inr ⟨h1, h2, Or.inl ⟨h3, h4⟩⟩)
  · exact Or.inr (Or.inr ⟨h1, h2, Or.inr ⟨h3, h4⟩⟩)

set_option maxHeartbeats 1600000 in
set_option maxRecDepth 100000 in
theorem Least_walk (H1 : HushCheck) (H2 : HushLabels) (w : World) (o s : ByteArray) {vl : Value} {m : Nat} {L : Nat → Int} (hl : Sli w vl m L) :
    Calls Try.prog 8 #[.string o, .string s, vl] w fun e w' => e = .returned (.bool true) ∧ Below w.heap.size w w' := by
  have HC1 := hide H1
  have HC2 := hide H2
  have HSL := hide hl
  clear H1 H2 hl
  have hnil : ∀ w, (binOp .eql 46 (.slice none 0 0) (.slice none 0 0)).run Try.prog w = .ok (.bool true) w := fun w => Lib.run_eql_slice_nil w _ _ none 0 0 0 0 Try.underlying46
  go_enter Try.func8, Try.ntmps8
  go_wp2_with fail
  refine (unhide HC1 _ _ _).mono ?_
  rintro e w1 ⟨⟨a, p, n, hr, rfl⟩, hb1⟩
  have HR := hide hr
  have HB1 := hide hb1
  have HS1 := hide ((unhide HSL).below hb1)
  clear hr hb1
  go_wp2_with fail
  refine (unhide HC2 _ _ _).mono ?_
  rintro e w2 ⟨⟨a', p', n', hr', hans⟩, hb2⟩
  obtain ⟨rfl, rfl, rfl⟩ := CkPost_uniq (unhide HR) hr'
  have HB2 := hide ((unhide HB1).trans (hb2.mono (unhide HB1).size))
  have HS2 := hide ((unhide HS1).below hb2)
  clear hr' hb2
  rcases CkPost_read (unhide HR) with ⟨b, q, hrd, hb0, rfl, rfl⟩ | ⟨hrd, hpe, ha, hp⟩ | ⟨hrd, hpe, hab⟩
  · have HRD := hide hrd
    have hb' : decide (a = 0) = false := by simpa using hb0
    clear hrd
    rcases hans with ⟨_, rfl⟩ | ⟨h0, _⟩
    · go_wp2_with fail
      refine (Read_any _ _).mono ?_
      rintro e w3 ⟨⟨c, q, k, hrd, hans⟩, hb3⟩
      obtain ⟨rfl, rfl, rfl⟩ := ReadPost_uniq (unhide HRD) hrd
      have HB3 := hide ((unhide HB2).trans (hb3.mono (unhide HB2).size))
      clear hrd hb3
      rcases hans with ⟨_, rfl⟩ | ⟨h0, _⟩
      · go_wp2_with (go_at_call 16; refine (num_any _ _).mono ?_; rintro e w' ⟨rfl, rfl⟩)
        go_ret
        exact ⟨rfl, unhide HB3⟩
      · exact absurd h0 hb0
    · exact absurd h0 hb0
  · have HRD := hide hrd
    have HPE := hide hpe
    have HAE := hide ha
    have ha0 : a ≠ 0 := by rw [ha]; exact hpe
    have hb' : decide (a = 0) = false := by simpa using ha0
    clear hrd hpe ha hp
    rcases hans with ⟨_, rfl⟩ | ⟨h0, _⟩
    · go_wp2_with fail
      refine (Read_any _ _).mono ?_
      rintro e w3 ⟨⟨c, q, k, hrd, hans⟩, hb3⟩
      obtain ⟨rfl, rfl, rfl⟩ := ReadPost_uniq (unhide HRD) hrd
      have HB3 := hide ((unhide HB2).trans (hb3.mono (unhide HB2).size))
      clear hrd hb3
      rcases hans with ⟨h0, _⟩ | ⟨_, _, h1, h8, ob, g, cap, rb, hob, hord, rfl⟩
      · exact absurd rfl h0
      · have cn := hord.cn
        clear hord
        go_wp2_with fail
        refine (Parse_any _ _ _ _ cn).mono ?_
        rintro e w4 ⟨hpa, hb4⟩
        have HB4 := hide ((unhide HB3).trans (hb4.mono (unhide HB3).size))
        clear hb4
        rcases hpa with ⟨_, rfl⟩ | ⟨h0, _⟩
        · rw [← unhide HAE]
          go_wp2_with (go_at_call 16; refine (num_any _ _).mono ?_; rintro e w' ⟨rfl, rfl⟩)
          go_ret
          exact ⟨rfl, unhide HB4⟩
        · exact absurd h0 (unhide HPE)
    · exact absurd h0 ha0
  · have HRD := hide hrd
    have HPE := hide hpe
    have HAB := hide hab
    have HK := hide (known hrd hpe)
    obtain ⟨u, he, hu⟩ : ∃ u, e = .returned (.tuple #[u, .int .i64 a]) ∧ (a = 0 → Sli w2 u (prNv s n + 2 * (prPs s n).length) (Go.Proofs.Ytfcflnnleadpkaa.lv (flF (ckL o s n) (prNv s n)))) := by
      rcases hans with ⟨h0, he⟩ | ⟨h0, _, v, hv, he⟩
      · exact ⟨_, he, fun h => absurd h h0⟩
      · exact ⟨v, by rw [he, h0], fun _ => hv⟩
    subst he
    have HU := hide hu
    clear hrd hpe hab hans hu
    go_wp2_with fail
    refine (Read_any _ _).mono ?_
    rintro e w3 ⟨⟨c, q, k, hrd, hans⟩, hb3⟩
    obtain ⟨rfl, rfl, rfl⟩ := ReadPost_uniq (unhide HRD) hrd
    have HB3 := hide ((unhide HB2).trans (hb3.mono (unhide HB2).size))
    have HS3 := hide ((unhide HS2).below hb3)
    have HU3 := hide (fun h => (unhide HU h).below hb3)
    clear hrd hb3
    rcases hans with ⟨h0, _⟩ | ⟨_, _, h1, h8, ob, g, cap, rb, hob, hord, rfl⟩
    · exact absurd rfl h0
    · have HORD := hide hord
      have cn := hord.cn
      clear hord
      go_wp2_with fail
      refine (Parse_any _ _ _ _ cn).mono ?_
      rintro e w4 ⟨hpa, hb4⟩
      have HB4 := hide ((unhide HB3).trans (hb4.mono (unhide HB3).size))
      have HS4 := hide ((unhide HS3).below hb4)
      have HU4 := hide (fun h => (unhide HU3 h).below hb4)
      have HORD4 := hide ((unhide HORD).below h1 hb4)
      clear hb4
      rcases hpa with ⟨h0, _⟩ | ⟨_, hsz, rfl, v', pv, fl, hpi⟩
      · exact absurd (unhide HPE) h0
      · obtain ⟨E, hpg, hsame, hpb⟩ := PI_pg hpi (unhide HORD4)
        have HPG := hide hpg
        have HS := hide hsame
        have HPB := hide hpb
        clear hpg hsame hpb hpi cn
        have HQ := hide (Parts.same (unhide HS) (unhide HK).Q)
        have HL : Hid (Lattice E.n E.R) := by rw [(unhide HS).n, (unhide HS).R]; exact (unhide HK).A.L
        have hn1 : 1 ≤ E.n := by rw [(unhide HS).n]; exact h1
        have hn8 : E.n ≤ 8 := by rw [(unhide HS).n]; exact h8
        have hnv : E.nv ≤ 8 := by rw [(unhide HS).nv]; exact (unhide HK).nv
        have hnp : E.np ≤ 4 := by rw [(unhide HS).np]; exact (unhide HK).np
        have hes : E.s.size ≤ 300 := by rw [(unhide HS).s]; exact hsz
        rw [← unhide HPB]
        go_wp2_with fail
        refine (split_any (E := E) hn1 hnv hnp (unhide HPG) (unhide HS4)).mono ?_
        rintro e w5 ⟨b, rfl, hb5, hbt, hbf⟩
        have HB5 := hide ((unhide HB4).trans (hb5.mono (unhide HB4).size))
        cases b
        · go_wp2_with fail
          go_ret
          exact ⟨rfl, unhide HB5⟩
        · obtain ⟨hok, vv, xv, tv, hli⟩ := hbt rfl
          obtain ⟨gv, cv, gx, cx, gt, ct, ha0, hsep⟩ := hli.at0g (E := E) (spV_len _ _) (spX_len _ _ _) (spT_len _ _ _) hn1 (unhide HPG)
          have HOK := hide hok
          have HA0 := hide ha0
          have HSEP := hide hsep
          have HB45 := hide hb5
          have hlt5 := hli.lt
          clear hbt hbf hok hli ha0 hsep hb5
          go_wp2_with fail
          refine (Fits_any (E := lbE E w4.heap.size gv cv gx cx gt ct) (f := s.size + 1) (unhide HL) hn1 hn8 hnv hnp hes ⟨(unhide HQ).main, (unhide HQ).proc⟩ (unhide HA0) (unhide HOK).inr (fun x low hx => unhide HSEP x low (by omega)) (Nat.le_of_lt hlt5)).mono ?_
          rintro e w6 ⟨rfl, hb6⟩
          have hb6' : Below w4.heap.size w5 w6 := hb6
          have HB6 := hide ((unhide HB5).trans (hb6'.mono (unhide HB4).size))
          have HB46 := hide ((unhide HB45).trans hb6')
          have HFB := hide (fitB_lb (E := E) (f := s.size + 1) (B := w4.heap.size) (gv := gv) (cv := cv) (gx := gx) (cx := cx) (gt := gt) (ct := ct) (L := L))
          rw [unhide HFB]
          clear hb6 hb6'
          cases hfb : fitB E (s.size + 1) (lsW L E.nv E.np)
          · go_wp2_with fail
            go_ret
            exact ⟨rfl, unhide HB6⟩
          · obtain ⟨hck, hle⟩ := least_pure (unhide HS) (unhide HK) (unhide HOK) hfb
            have HLE := hide hle
            have ha : a = 0 := by
              rcases unhide HAB with ⟨h, _⟩ | ⟨_, h⟩
              · omega
              · exact h
            subst ha
            have HG := hide ((unhide HU4 rfl).below (unhide HB46))
            have HLL := hide ((unhide HS4).below (unhide HB46))
            have HO6 := hide ((unhide HORD4).below h1 (unhide HB46))
            have hmm : m = prNv s n + 2 * (prPs s n).length := by
              have := (unhide HOK).1
              rw [(unhide HS).nv, (unhide HS).np] at this
              exact this
            clear hck hle hfb
            rw [← hmm] at HG
            have hm16 : m ≤ 16 := by have h1 := (unhide HK).nv; have h2 := (unhide HK).np; omega
            clear hmm
            obtain ⟨ga, gc, rfl, _, hgc⟩ := unhide HG
            obtain ⟨la, lc, rfl, _, hlc⟩ := unhide HLL
            have HGC := hide hgc
            have HLC := hide hlc
            clear hgc hlc
            go_wp2_with (go_at_call 16; refine (num_any _ _).mono ?_; rintro e w' ⟨rfl, rfl⟩)
            go_loopg [20] m (fun g d wr => ∃ (k q : Nat), k + g = m ∧ d = .int .i64 (k : Int) ∧ wr = w'.drewN q)
            case atStart => exact ⟨0, 0, Nat.zero_add _, rfl, rfl⟩
            case round =>
              obtain ⟨k, q, hkg, rfl, rfl⟩ := hrel
              by_cases hlt : k < m
              · have hlt' : (k : Int) < (m : Int) := by omega
                obtain ⟨gd, rfl, c1⟩ := unhide HGC k hlt
                obtain ⟨ld, rfl, c2⟩ := unhide HLC k hlt
                obtain ⟨y, ey, hle⟩ := unhide HLE k hlt
                have hx : flF (ckL o s n) (prNv s n) k < n := hle.2.1
                have hy := hle.2.2
                rw [ey] at c2
                have c1' : w'.cell? (gd.add k) = some (.int .i64 ((flF (ckL o s n) (prNv s n) k : Nat) : Int)) := c1
                have o1 := (unhide HO6).cn
                have o2 := (unhide HO6).cb
                have o3 := (unhide HO6).row _ hx
                have o4 := (unhide HO6).bel _ _ hx hy
                rw [hle.1] at o4
                have hw1 : Hid (Value.int .i64 ((k : Int) + 1) = Value.int .i64 ((k + 1 : Nat) : Int)) := hide (congrArg (Value.int .i64) (by omega))
                clear c1 hle ey
                generalize flF (ckL o s n) (prNv s n) k = x at *
                have t1 : decide ((x : Int) < 0) = false := by simp
                have t2 : decide ((n : Int) ≤ (x : Int)) = false := by simp; omega
                have t3 : (x : Int) < (n : Int) := by omega
                have t4 : (y : Int) < (n : Int) := by omega
                go_wp2_with fail
                go_quiet (fail)
                go_wp2_with fail
                go_roundg (gk - 1)
                case measure => omega
                case rel => exact ⟨k + 1, q + nq, by omega, unhide hw1, rfl⟩
              · have hke : k = m := by omega
                subst hke
                have hlt' : decide ((k : Int) < (k : Int)) = false := by simp
                go_wp2_with fail
                go_ret
                exact ⟨rfl, below_drewN2 (unhide HB6) q⟩

end Go.Proofs.Ytfcflnnleadpkaa

namespace Go.Proofs.Ytfcflnnleadpkaa
open Go.RowKit

theorem FitW.congr {E : Env} {f : Nat} {V X T V' X' T' : Nat → Nat} (A : Lat E.n E.R) (Q : Parts E f) (hV : ∀ k, k < E.nv → V k < E.n) (hX : ∀ k, k < E.np → X k < E.n) (hT : ∀ k, k < E.np → T k < E.n)
    (eV : ∀ k, k < E.nv → V' k = V k) (eX : ∀ k, k < E.np → X' k = X k) (eT : ∀ k, k < E.np → T' k = T k) (h : FitW E f V X T) : FitW E f V' X' T' := by
  have bV : Bel E.R E.n E.nv V' V := fun k hk => by rw [eV k hk]; exact A.refl (hV k hk)
  have bX : Bel E.R E.n E.np X' X := fun k hk => by rw [eX k hk]; exact A.refl (hX k hk)
  have bT : Bel E.R E.n E.np T' T := fun k hk => by rw [eT k hk]; exact A.refl (hT k hk)
  refine ⟨fun d hd => ?_, fun k hk => ?_⟩
  · obtain ⟨e, he, e1, _, e3⟩ := allD_mono A Q bV bX bT E.np (Nat.le_refl _) d hd
    have hin := allD_in A Q hV hX hT E.np (Nat.le_refl _) e he
    have h1 := h.dem e he
    rw [e1] at h1 hin
    have et : tgv V' X' d.tg = tgv V X d.tg := by
      have h2 := hin.2
      cases ht : d.tg with
      | lev x => rfl
      | var v => rw [ht] at h2; exact eV v h2
      | ctx k => rw [ht] at h2; exact eX k h2
    rw [et]
    exact (A.trans e3 ⟨h1, hin.1, tgv_in hV hX hin.2⟩).1
  · obtain ⟨m, j, em, hj⟩ := Q.proc k hk
    have em' : (E.P k).toNat = m := by omega
    have h1 := h.thr k hk
    have h2 : Le E.R E.n (tdP E f V' X' T' k).2.1 (tdP E f V X T k).2.1 := by
      unfold tdP
      rw [em']
      exact (wd_mono (c := bt E.s) A bV bT f m _ _ j hj (bX k hk)).2.2.1
    have h3 := A.of_jn' h2.2.2 (hT k hk) h1
    rw [eT k hk]
    exact A.jn_eq' (A.trans h2 h3)
/-- What Labels answers fits. -/
theorem holds_pure {o s : ByteArray} {n : Nat} {E : Env} (hS : Same E (pE (cl o n) s n)) (K : Known o s n) (hb : ckB o s n < 0) :
    spOk E (prNv s n + 2 * (prPs s n).length) (lv (flF (ckL o s n) (prNv s n))) ∧ fitB E (s.size + 1) (lsW (lv (flF (ckL o s n) (prNv s n))) E.nv E.np) = true := by
  have LW := K.low
  have en : E.n = n := hS.n
  have env : E.nv = prNv s n := hS.nv
  have enp : E.np = (prPs s n).length := hS.np
  have A : Lat E.n E.R := by rw [hS.n, hS.R]; exact K.A
  have F := LW.fits K.A hb
  have F2 : FitW E (s.size + 1) (ckL o s n).V (ckL o s n).X (ckL o s n).T := F.same ⟨hS.s.symm, hS.R.symm, hS.n.symm, hS.nv.symm, hS.np.symm, hS.main.symm, hS.P.symm⟩
  have X2 : Fixd E (ckL o s n).V := LW.fx.same ⟨hS.s.symm, hS.R.symm, hS.n.symm, hS.nv.symm, hS.np.symm, hS.main.symm, hS.P.symm⟩
  have iv : ∀ k, k < E.nv → (ckL o s n).V k < E.n := fun k hk => by rw [en]; exact LW.iv k (by rw [hS.nv.symm]; exact hk)
  have ix : ∀ k, k < E.np → (ckL o s n).X k < E.n := fun k hk => by rw [en]; exact LW.ix k (by rw [hS.np.symm]; exact hk)
  have it : ∀ k, k < E.np → (ckL o s n).T k < E.n := fun k hk => by rw [en]; exact LW.it k (by rw [hS.np.symm]; exact hk)
  have eV : ∀ k, k < E.nv → (lsW (lv (flF (ckL o s n) (prNv s n))) E.nv E.np).V k = (ckL o s n).V k := by
    intro k hk
    rw [lsW_V hk]
    unfold lv flF
    rw [if_pos (by omega)]; rfl
  have eX : ∀ k, k < E.np → (lsW (lv (flF (ckL o s n) (prNv s n))) E.nv E.np).X k = (ckL o s n).X k := by
    intro k hk
    rw [lsW_X hk]
    unfold lv flF
    rw [if_neg (by omega), if_pos (by omega), show (E.nv + 2 * k - prNv s n) / 2 = k by omega]; rfl
  have eT : ∀ k, k < E.np → (lsW (lv (flF (ckL o s n) (prNv s n))) E.nv E.np).T k = (ckL o s n).T k := by
    intro k hk
    rw [lsW_T hk]
    unfold lv flF
    rw [if_neg (by omega), if_neg (by omega), show (E.nv + 2 * k + 1 - prNv s n) / 2 = k by omega]; rfl
  refine ⟨⟨by omega, fun i hi => ?_⟩, fitB_iff.2 ⟨fun k hk hf => ?_, F2.congr A (Q := Parts.same hS K.Q) iv ix it eV eX eT⟩⟩
  · have hlt : flF (ckL o s n) (prNv s n) i < E.n := by
      unfold flF
      by_cases h1 : i < prNv s n
      · rw [if_pos h1]; exact iv i (by omega)
      · rw [if_neg h1]
        by_cases h2 : (i - prNv s n) % 2 = 0
        · rw [if_pos h2]; exact ix _ (by omega)
        · rw [if_neg h2]; exact it _ (by omega)
    unfold lv
    omega
  · have := X2 k hk hf
    rw [eV k hk]; exact this

end Go.Proofs.Ytfcflnnleadpkaa

namespace Go.Proofs.Ytfcflnnleadpkaa

/-! Labels("201", "?:,r1ao1a"). -/
def oneO : ByteArray := ⟨#[50, 48, 49]⟩
def oneS : ByteArray := ⟨#[63, 58, 44, 114, 49, 97, 111, 49, 97]⟩
theorem one_pr : prE oneS 2 = 0 ∧ prNv oneS 2 = 1 ∧ (prPs oneS 2).length = 0 := by decide +kernel
theorem one_well : Hm.wellR (cl oneO 2) 2 = true := by decide +kernel
theorem one_ck : ckB oneO oneS 2 < 0 := by decide +kernel
theorem one_good : GoodOrd oneO 2 := by
  refine ⟨?_, by decide, fun k h1 h2 => ?_⟩
  · unfold FirstOk
    decide +kernel
  · have : k = 1 ∨ k = 2 := by
      have : oneO.size = 3 := rfl
      omega
    rcases this with rfl | rfl <;> decide +kernel
theorem one_post : CkPost oneO oneS 0 0 2 := Or.inr (Or.inr (Or.inr ⟨Or.inr (Or.inr (Or.inr ⟨by decide, one_good, one_well, rfl, rfl⟩)), one_pr.1, one_ck, rfl, rfl⟩))

end Go.Proofs.Ytfcflnnleadpkaa

namespace Go.Proofs.Ytfcflnnleadpkaa
open Go.RowKit

set_option maxHeartbeats 1600000 in
set_option maxRecDepth 100000 in
theorem Holds_walk (H1 : HushCheck) (H2 : HushLabels) (w : World) (o s : ByteArray) :
    Calls Try.prog 9 #[.string o, .string s] w fun e w' => e = .returned (.bool true) ∧ Below w.heap.size w w' := by
  have HC1 := hide H1
  have HC2 := hide H2
  clear H1 H2
  have hnil : ∀ w, (binOp .eql 46 (.slice none 0 0) (.slice none 0 0)).run Try.prog w = .ok (.bool true) w := fun w => Lib.run_eql_slice_nil w _ _ none 0 0 0 0 Try.underlying46
  go_enter Try.func9, Try.ntmps9
  go_wp2_with fail
  refine (unhide HC2 _ oneO oneS).mono ?_
  rintro e w0 ⟨⟨a0, p0, n0, hr0, hans0⟩, hb0⟩
  obtain ⟨rfl, rfl, rfl⟩ := CkPost_uniq one_post hr0
  have HB0 := hide hb0
  clear hr0 hb0
  rcases hans0 with ⟨h0, _⟩ | ⟨_, _, v0, ⟨ga, gc, e0, _, _⟩, rfl⟩
  · exact absurd rfl h0
  have e1 : prNv oneS 2 + 2 * (prPs oneS 2).length = 1 := by rw [one_pr.2.1, one_pr.2.2]
  rw [e1] at e0
  subst e0
  clear e1
  go_wp2_with (go_at_call 16; refine (num_any _ _).mono ?_; rintro e w' ⟨rfl, rfl⟩)
  refine (unhide HC1 _ _ _).mono ?_
  rintro e w1 ⟨⟨a, p, n, hr, rfl⟩, hb1⟩
  have HR := hide hr
  have HB1 := hide ((unhide HB0).trans (hb1.mono (unhide HB0).size))
  clear hr hb1
  go_wp2_with fail
  refine (unhide HC2 _ _ _).mono ?_
  rintro e w2 ⟨⟨a', p', n', hr', hans⟩, hb2⟩
  obtain ⟨rfl, rfl, rfl⟩ := CkPost_uniq (unhide HR) hr'
  have HB2 := hide ((unhide HB1).trans (hb2.mono (unhide HB1).size))
  clear hr' hb2
  rcases hans with ⟨ha0, rfl⟩ | ⟨rfl, rfl, u, hu, rfl⟩
  · have hb' : decide (a = 0) = false := by simpa using ha0
    go_wp2_with (go_at_call 16; refine (num_any _ _).mono ?_; rintro e w' ⟨rfl, rfl⟩)
    refine (Read_any _ _).mono ?_
    rintro e w3 ⟨⟨c, q, k, hrd, hans⟩, hb3⟩
    have HB3 := hide ((unhide HB2).trans (hb3.mono (unhide HB2).size))
    clear hrd hb3
    rcases hans with ⟨_, rfl⟩ | ⟨rfl, _, _, _, ob, g, cap, rb, _, _, rfl⟩
    · go_wp2_with (go_at_call 16; refine (num_any _ _).mono ?_; rintro e w' ⟨rfl, rfl⟩)
      go_ret
      exact ⟨rfl, unhide HB3⟩
    · go_wp2_with (go_at_call 16; refine (num_any _ _).mono ?_; rintro e w' ⟨rfl, rfl⟩)
      go_ret
      exact ⟨rfl, unhide HB3⟩
  · have HU := hide hu
    obtain ⟨hrd, hpe, hck⟩ : ReadPost o 0 0 n ∧ prE s n = 0 ∧ ckB o s n < 0 := by
      rcases CkPost_read (unhide HR) with ⟨b, q, _, hb0, h0, _⟩ | ⟨_, h1, h2, _⟩ | ⟨h1, h2, h3⟩
      · exact absurd h0.symm hb0
      · exact absurd h2.symm h1
      · rcases h3 with ⟨_, h⟩ | ⟨h, _⟩
        · omega
        · exact ⟨h1, h2, h⟩
    have HRD := hide hrd
    have HPE := hide hpe
    have HCK := hide hck
    have HK := hide (known hrd hpe)
    clear hrd hpe hck hu
    go_wp2_with (go_at_call 16; refine (num_any _ _).mono ?_; rintro e w' ⟨rfl, rfl⟩)
    refine (Read_any _ _).mono ?_
    rintro e w3 ⟨⟨c, q, k, hrd, hans⟩, hb3⟩
    obtain ⟨rfl, rfl, rfl⟩ := ReadPost_uniq (unhide HRD) hrd
    have HB3 := hide ((unhide HB2).trans (hb3.mono (unhide HB2).size))
    have HU3 := hide ((unhide HU).below hb3)
    clear hrd hb3
    rcases hans with ⟨h0, _⟩ | ⟨_, _, h1, h8, ob, g, cap, rb, hob, hord, rfl⟩
    · exact absurd rfl h0
    · have HORD := hide hord
      have cn := hord.cn
      clear hord
      go_wp2_with (go_at_call 16; refine (num_any _ _).mono ?_; rintro e w' ⟨rfl, rfl⟩)
      refine (Parse_any _ _ _ _ cn).mono ?_
      rintro e w4 ⟨hpa, hb4⟩
      have HB4 := hide ((unhide HB3).trans (hb4.mono (unhide HB3).size))
      have HU4 := hide ((unhide HU3).below hb4)
      have HORD4 := hide ((unhide HORD).below h1 hb4)
      clear hb4
      rcases hpa with ⟨h0, _⟩ | ⟨_, hsz, rfl, v', pv, fl, hpi⟩
      · exact absurd (unhide HPE) h0
      · obtain ⟨E, hpg, hsame, hpb⟩ := PI_pg hpi (unhide HORD4)
        have HPG := hide hpg
        have HS := hide hsame
        have HPB := hide hpb
        have HPU := hide (holds_pure hsame (unhide HK) (unhide HCK))
        clear hpg hsame hpb hpi cn
        have HQ := hide (Parts.same (unhide HS) (unhide HK).Q)
        have HL : Hid (Lattice E.n E.R) := by rw [(unhide HS).n, (unhide HS).R]; exact (unhide HK).A.L
        have hn1 : 1 ≤ E.n := by rw [(unhide HS).n]; exact h1
        have hn8 : E.n ≤ 8 := by rw [(unhide HS).n]; exact h8
        have hnv : E.nv ≤ 8 := by rw [(unhide HS).nv]; exact (unhide HK).nv
        have hnp : E.np ≤ 4 := by rw [(unhide HS).np]; exact (unhide HK).np
        have hes : E.s.size ≤ 300 := by rw [(unhide HS).s]; exact hsz
        rw [← unhide HPB]
        go_wp2_with fail
        refine (split_any (E := E) hn1 hnv hnp (unhide HPG) (unhide HU4)).mono ?_
        rintro e w5 ⟨b, rfl, hb5, hbt, hbf⟩
        have HB5 := hide ((unhide HB4).trans (hb5.mono (unhide HB4).size))
        cases b
        · exact absurd (unhide HPU).1 (hbf rfl)
        · obtain ⟨hok, vv, xv, tv, hli⟩ := hbt rfl
          obtain ⟨L, HLq⟩ : ∃ L, Hid (Go.Proofs.Ytfcflnnleadpkaa.lv (flF (ckL o s n) (prNv s n)) = L) := ⟨_, rfl⟩
          rw [unhide HLq] at hok hli
          obtain ⟨gv, cv, gx, cx, gt, ct, ha0, hsep⟩ := hli.at0g (E := E) (spV_len _ _) (spX_len _ _ _) (spT_len _ _ _) hn1 (unhide HPG)
          have HOK := hide hok
          have HA0 := hide ha0
          have HSEP := hide hsep
          have hlt5 := hli.lt
          clear hbt hbf hok hli ha0 hsep hb5
          go_wp2_with fail
          refine (Fits_any (E := lbE E w4.heap.size gv cv gx cx gt ct) (f := s.size + 1) (unhide HL) hn1 hn8 hnv hnp hes ⟨(unhide HQ).main, (unhide HQ).proc⟩ (unhide HA0) (unhide HOK).inr (fun x low hx => unhide HSEP x low (by omega)) (Nat.le_of_lt hlt5)).mono ?_
          rintro e w6 ⟨rfl, hb6⟩
          have hb6' : Below w4.heap.size w5 w6 := hb6
          have HB6 := hide ((unhide HB5).trans (hb6'.mono (unhide HB4).size))
          have HFB := hide (show fitB (lbE E w4.heap.size gv cv gx cx gt ct) (s.size + 1) (lbS (spV L E.nv) (spX L E.nv E.np) (spT L E.nv E.np)) = true by
            rw [fitB_lb, ← unhide HLq]
            exact (unhide HPU).2)
          rw [unhide HFB]
          clear hb6 hb6'
          go_wp2_with fail
          go_ret
          exact ⟨rfl, unhide HB6⟩

end Go.Proofs.Ytfcflnnleadpkaa
