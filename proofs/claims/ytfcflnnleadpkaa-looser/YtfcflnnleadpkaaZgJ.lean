import Derived.Test.YtfcflnnleadpkaaZcJ
import Derived.Test.YtfcflnnleadpkaaUgJ
namespace Go.Proofs.Ytfcflnnleadpkaa
open Go.RowKit

theorem pr_colon {s : ByteArray} {n : Nat} (h : prE s n = 0) : prNv s n < s.size := by
  have hA : (prA s n).2.1 = false := by
    unfold prE at h
    split at h
    · omega
    split at h
    · omega
    rename_i hb
    simpa using hb
  have h58 : bt s (prNv s n) = 58 := by
    unfold prA parseAll at hA
    split at hA
    · assumption
    · simp at hA
  unfold bt at h58
  split at h58
  · assumption
  · omega

theorem freed_of {s : ByteArray} {n x : Nat} (h1 : x < prNv s n) (h2 : prNv s n < s.size) : Freed s (s.extract 0 x ++ ⟨#[63]⟩ ++ s.extract (x + 1) s.size) n x := by
  have e0 : (s.extract 0 x).size = x := by rw [ByteArray.size_extract]; omega
  have e1 : (ByteArray.mk #[63]).size = 1 := rfl
  have e2 : (s.extract (x + 1) s.size).size = s.size - (x + 1) := by rw [ByteArray.size_extract]; omega
  have e3 : (s.extract 0 x ++ ⟨#[63]⟩).size = x + 1 := by rw [ByteArray.size_append, e0, e1]
  have e4 : (s.extract 0 x ++ ⟨#[63]⟩ ++ s.extract (x + 1) s.size).size = s.size := by rw [ByteArray.size_append, e3, e2]; omega
  refine ⟨e4, h1, ?_, fun k hk => ?_⟩
  · unfold bt
    rw [dif_pos (by omega)]
    rw [ByteArray.getElem_append_left (by omega), ByteArray.getElem_append_right (by omega)]
    simp only [e0, Nat.sub_self]
    rfl
  · unfold bt
    by_cases hs : k < s.size
    · rw [dif_pos (by omega), dif_pos hs]
      by_cases hlt : k < x
      · rw [ByteArray.getElem_append_left (by omega), ByteArray.getElem_append_left (by omega), ByteArray.getElem_extract]
        simp only [Nat.zero_add]
      · rw [ByteArray.getElem_append_right (by omega), ByteArray.getElem_extract]
        have e5 : x + 1 + (k - (s.extract 0 x ++ ⟨#[63]⟩).size) = k := by omega
        simp only [e5]
    · rw [dif_neg (by omega), dif_neg hs]

set_option maxHeartbeats 1600000 in
set_option maxRecDepth 100000 in
theorem Looser_walk (H1 : HushCheck) (H2 : HushLabels) (w : World) (o s : ByteArray) (v : Int) :
    Calls Try.prog 10 #[.string o, .string s, .int .i64 v] w fun e w' => e = .returned (.bool true) ∧ Below w.heap.size w w' := by
  have HC1 := hide H1
  have HC2 := hide H2
  clear H1 H2
  go_enter Try.func10, Try.ntmps10
  go_wp2_with fail
  refine (Read_any _ _).mono ?_
  rintro e w1 ⟨⟨b, q, n, hrd, hans⟩, hb1⟩
  have HRD := hide hrd
  have HB1 := hide hb1
  clear hrd hb1
  rcases hans with ⟨hb0, rfl⟩ | ⟨rfl, rfl, h1, h8, ob, g, cap, rb, hob, hord, rfl⟩
  · have hb' : decide (b = 0) = false := by simpa using hb0
    go_wp2_with fail
    refine (unhide HC1 _ _ _).mono ?_
    rintro e w2 ⟨⟨a, p, n', hr, rfl⟩, hb2⟩
    have HR := hide hr
    have HB2 := hide ((unhide HB1).trans (hb2.mono (unhide HB1).size))
    clear hr hb2
    have hab : a = b := by
      rcases CkPost_read (unhide HR) with ⟨b', q', h1, _, h3, _⟩ | ⟨h1, _⟩ | ⟨h1, _⟩
      · rw [h3]; exact (ReadPost_uniq h1 (unhide HRD)).1
      · exact absurd (ReadPost_uniq h1 (unhide HRD)).1.symm hb0
      · exact absurd (ReadPost_uniq h1 (unhide HRD)).1.symm hb0
    subst hab
    go_wp2_with fail
    refine (unhide HC2 _ _ _).mono ?_
    rintro e w3 ⟨⟨a', p', n'', hr', hans⟩, hb3⟩
    obtain ⟨rfl, rfl, rfl⟩ := CkPost_uniq (unhide HR) hr'
    have HB3 := hide ((unhide HB2).trans (hb3.mono (unhide HB2).size))
    clear hr' hb3
    rcases hans with ⟨_, rfl⟩ | ⟨h0, _⟩
    · go_wp2_with (go_at_call 16; refine (num_any _ _).mono ?_; rintro e w' ⟨rfl, rfl⟩)
      go_ret
      exact ⟨rfl, unhide HB3⟩
    · exact absurd h0 hb0
  · have HORD := hide hord
    clear hord
    go_wp2_with fail
    refine (unhide HC1 _ _ _).mono ?_
    rintro e w2 ⟨⟨a, p, n', hr, rfl⟩, hb2⟩
    have HR := hide hr
    have HB2 := hide ((unhide HB1).trans (hb2.mono (unhide HB1).size))
    have HORD2 := hide ((unhide HORD).below h1 hb2)
    clear hr hb2
    have hnn : n = n' := by
      rcases CkPost_read (unhide HR) with ⟨b', q', h1, h2, _, _⟩ | ⟨h1, _⟩ | ⟨h1, _⟩
      · exact absurd (ReadPost_uniq h1 (unhide HRD)).1 h2
      · exact (ReadPost_uniq (unhide HRD) h1).2.2
      · exact (ReadPost_uniq (unhide HRD) h1).2.2
    subst hnn
    go_wp2_with fail
    refine (unhide HC2 _ _ _).mono ?_
    rintro e w3 ⟨⟨a', p', n'', hr', hans⟩, hb3⟩
    obtain ⟨rfl, rfl, rfl⟩ := CkPost_uniq (unhide HR) hr'
    have HB3 := hide ((unhide HB2).trans (hb3.mono (unhide HB2).size))
    have HORD3 := hide ((unhide HORD2).below h1 hb3)
    obtain ⟨u, he, hu⟩ : ∃ u, e = .returned (.tuple #[u, .int .i64 a]) ∧ (a = 0 → Sli w3 u (prNv s n + 2 * (prPs s n).length) (Go.Proofs.Ytfcflnnleadpkaa.lv (flF (ckL o s n) (prNv s n)))) := by
      rcases hans with ⟨h0, he⟩ | ⟨h0, _, v, hv, he⟩
      · exact ⟨_, he, fun h => absurd h h0⟩
      · exact ⟨v, by rw [he, h0], fun _ => hv⟩
    subst he
    have HU := hide hu
    have cn := (unhide HORD3).cn
    clear hr' hb3 hans hu
    go_wp2_with fail
    refine (Parse_any _ _ _ _ cn).mono ?_
    rintro e w4 ⟨hpa, hb4⟩
    have HB4 := hide ((unhide HB3).trans (hb4.mono (unhide HB3).size))
    have HU4 := hide (fun h => (unhide HU h).below hb4)
    have HORD4 := hide ((unhide HORD3).below h1 hb4)
    clear hb4 cn
    rcases hpa with ⟨hpe, rfl⟩ | ⟨hpe, hsz, rfl, v', pv, fl, hpi⟩
    · have hae : a = prE s n := by
        rcases CkPost_read (unhide HR) with ⟨b', q', h1, h2, _, _⟩ | ⟨_, _, h3, _⟩ | ⟨_, h2, _⟩
        · exact absurd (ReadPost_uniq h1 (unhide HRD)).1 h2
        · exact h3
        · exact absurd h2 hpe
      have ha0 : a ≠ 0 := by rw [hae]; exact hpe
      rw [← hae]
      have ha' : decide (a = 0) = false := by simpa using ha0
      clear hae hpe
      go_wp2_with (go_at_call 16; refine (num_any _ _).mono ?_; rintro e w' ⟨rfl, rfl⟩)
      go_ret
      exact ⟨rfl, unhide HB4⟩
    · have HPE := hide hpe
      have HK := hide (known (unhide HRD) hpe)
      obtain ⟨E, hpg, hsame, hpb⟩ := PI_pg hpi (unhide HORD4)
      have HPG := hide hpg
      have hnv : E.nv = prNv s n := hsame.nv
      have hnp : E.np = (prPs s n).length := hsame.np
      have HN := hide (And.intro hnv hnp)
      obtain ⟨fa, fc, hfs⟩ := sl_form E.nv E.gf E.cf
      obtain ⟨pa, pc, hps⟩ := sl_form E.np E.gp E.cp
      have qf := hpg.cF
      have qp := hpg.cPr
      rw [hfs, hnv, hpb] at qf
      rw [hps, hnp, hpb] at qp
      have HSZ := hide (And.intro (pr_colon hpe) hsz)
      clear hpg hsame hpb hpi hnv hnp hfs hps hpe hsz
      obtain ⟨nv, HNV⟩ : ∃ nv, Hid (prNv s n = nv) := ⟨_, rfl⟩
      obtain ⟨np, HNP⟩ : ∃ np, Hid ((prPs s n).length = np) := ⟨_, rfl⟩
      rw [unhide HNV] at qf
      rw [unhide HNP] at qp
      have hsz1 : nv < s.size := by rw [← unhide HNV]; exact (unhide HSZ).1
      have hsz2 : s.size ≤ 300 := (unhide HSZ).2
      by_cases hv0 : v < 0
      · have hv' : decide (v < 0) = true := by simpa using hv0
        go_wp2_with (go_at_call 16; refine (num_any _ _).mono ?_; rintro e w' ⟨rfl, rfl⟩)
        go_ret
        exact ⟨rfl, unhide HB4⟩
      · have hv' : decide (v < 0) = false := by simpa using hv0
        by_cases hv1 : (nv : Int) ≤ v
        · have hv1' : decide ((nv : Int) ≤ v) = true := by simpa using hv1
          go_wp2_with (go_at_call 16; refine (num_any _ _).mono ?_; rintro e w' ⟨rfl, rfl⟩)
          go_ret
          exact ⟨rfl, unhide HB4⟩
        · have hv1' : decide ((nv : Int) ≤ v) = false := by simpa using hv1
          by_cases ha0 : a = 0
          · subst ha0
            obtain ⟨x, rfl⟩ : ∃ x : Nat, v = (x : Int) := ⟨v.toNat, by omega⟩
            have t1 : (x : Int) ≤ (s.size : Int) := by omega
            have t2 : (x : Int) + 1 ≤ (s.size : Int) := by omega
            go_wp2_with (go_at_call 16; refine (num_any _ _).mono ?_; rintro e w' ⟨rfl, rfl⟩)
            go_quiet (fail)
            go_wp2_with fail
            have hck : ckB o s n < 0 := by
              rcases CkPost_read (unhide HR) with ⟨b, q, _, hb0, h0, _⟩ | ⟨_, h1, h2, _⟩ | ⟨_, _, h3⟩
              · exact absurd h0.symm hb0
              · exact absurd h2.symm h1
              · rcases h3 with ⟨_, h⟩ | ⟨h, _⟩
                · omega
                · exact h
            obtain ⟨t, HT⟩ : ∃ t, Hid (s.extract 0 x ++ ⟨#[63]⟩ ++ s.extract (x + 1) s.size = t) := ⟨_, rfl⟩
            have HF : Hid (Freed s t n x) := by
              rw [← unhide HT]
              exact freed_of (by rw [unhide HNV]; omega) (by rw [unhide HNV]; exact hsz1)
            have HLO := hide ((unhide HF).looser (unhide HRD) (unhide HPE) hck)
            rw [unhide HT]
            clear hck
            refine (unhide HC2 _ o t).mono ?_
            rintro e w5 ⟨⟨a', p', n', hr', hans'⟩, hb5⟩
            have hb5' : Below w'.heap.size w' w5 := (below_drewN2 (Below.refl _ _) nq).trans hb5
            obtain ⟨rfl, rfl, rfl⟩ := CkPost_uniq (Or.inr (Or.inr (Or.inr ⟨(unhide HLO).1, (unhide HLO).2.1, (unhide HLO).2.2.1, rfl, rfl⟩))) hr'
            have HB5 := hide ((unhide HB4).trans (hb5'.mono (unhide HB4).size))
            have HG5 := hide ((unhide HU4 (by trivial)).below hb5')
            have HO5 := hide ((unhide HORD4).below h1 hb5')
            have qf5 := (World.cell?_of_block (w := w') (a := ⟨w3.heap.size + 1, 4, none⟩) (hb5'.block _ (World.block_lt_of_cell? w' _ qf))).trans qf
            have qp5 := (World.cell?_of_block (w := w') (a := ⟨w3.heap.size + 1, 3, none⟩) (hb5'.block _ (World.block_lt_of_cell? w' _ qp))).trans qp
            clear hr' hb5 hb5' qf qp
            rcases hans' with ⟨h0, _⟩ | ⟨_, _, mv, hmv, rfl⟩
            · exact absurd rfl h0
            · rw [(unhide HF).nv, (unhide HF).ps] at hmv
              have HLE := hide (show ∀ i, i < nv + 2 * np → flF (ckL o s n) nv i < n ∧ Le (cl o n) n (flF (ckL o t n) nv i) (flF (ckL o s n) nv i) by
                obtain ⟨_, _, _, b1, b2, b3⟩ := unhide HLO
                rw [unhide HNV] at b1
                rw [unhide HNP] at b2 b3
                intro i hi
                have key : Le (cl o n) n (flF (ckL o t n) nv i) (flF (ckL o s n) nv i) := by
                  unfold flF
                  by_cases c1 : i < nv
                  · rw [if_pos c1, if_pos c1]; exact b1 i c1
                  · rw [if_neg c1, if_neg c1]
                    by_cases c2 : (i - nv) % 2 = 0
                    · rw [if_pos c2, if_pos c2]; exact b2 _ (by omega)
                    · rw [if_neg c2, if_neg c2]; exact b3 _ (by omega)
                exact ⟨key.2.2, key⟩)
              have h16 : nv + 2 * np ≤ 16 := by
                have k1 := (unhide HK).nv
                have k2 := (unhide HK).np
                rw [unhide HNV] at k1
                rw [unhide HNP] at k2
                omega
              rw [unhide HNV, unhide HNP] at HG5 hmv
              obtain ⟨ga, gc, rfl, _, hgc⟩ := unhide HG5
              obtain ⟨ma, mc, rfl, _, hmc⟩ := hmv
              have HGC := hide hgc
              have HMC := hide hmc
              have e8 : ((nv + 2 * np : Nat) : Int) = (nv : Int) + 2 * (np : Int) := by omega
              clear hgc hmc
              go_wp2_with fail
              go_quiet ((go_at_call 16; exact Calls.quiet_of_same (num_any _ _)))
              go_wp2_with fail
              clear e8 qf5 qp5
              generalize nv + 2 * np = M at *
              go_loopg [20] M (fun g d wr => ∃ (k q : Nat), k + g = M ∧ d = .int .i64 (k : Int) ∧ wr = w5.drewN q)
              case atStart => exact ⟨0, nq, Nat.zero_add _, rfl, rfl⟩
              case round =>
                obtain ⟨k, q, hkg, rfl, rfl⟩ := hrel
                by_cases hlt : k < M
                · have hlt' : (k : Int) < (M : Int) := by omega
                  obtain ⟨gd, rfl, c1⟩ := unhide HGC k hlt
                  obtain ⟨ld, rfl, c2⟩ := unhide HMC k hlt
                  obtain ⟨hy, hle⟩ := unhide HLE k hlt
                  have hx : flF (ckL o t n) nv k < n := hle.2.1
                  have c1' : w5.cell? (gd.add k) = some (.int .i64 ((flF (ckL o s n) nv k : Nat) : Int)) := c1
                  have c2' : w5.cell? (ld.add k) = some (.int .i64 ((flF (ckL o t n) nv k : Nat) : Int)) := c2
                  have o1 := (unhide HO5).cn
                  have o2 := (unhide HO5).cb
                  have o3 := (unhide HO5).row _ hx
                  have o4 := (unhide HO5).bel _ _ hx hy
                  rw [hle.1] at o4
                  have hw1 : Hid (Value.int .i64 ((k : Int) + 1) = Value.int .i64 ((k + 1 : Nat) : Int)) := hide (congrArg (Value.int .i64) (by omega))
                  clear c1 c2 hle
                  generalize flF (ckL o s n) nv k = y at *
                  generalize flF (ckL o t n) nv k = z at *
                  have t1 : decide ((z : Int) < 0) = false := by simp
                  have t2 : decide ((n : Int) ≤ (z : Int)) = false := by simp; omega
                  have t3 : (z : Int) < (n : Int) := by omega
                  have t4 : (y : Int) < (n : Int) := by omega
                  have t5 : decide ((y : Int) < 0) = false := by simp
                  have t6 : decide ((n : Int) ≤ (y : Int)) = false := by simp; omega
                  go_wp2_with fail
                  go_quiet (fail)
                  go_wp2_with fail
                  go_roundg (gk - 1)
                  case measure => omega
                  case rel => exact ⟨k + 1, q + nq, by omega, unhide hw1, rfl⟩
                · have hke : k = M := by omega
                  subst hke
                  have hlt' : decide ((k : Int) < (k : Int)) = false := by simp
                  go_wp2_with fail
                  go_ret
                  exact ⟨rfl, below_drewN2 (unhide HB5) q⟩
          · have ha' : decide (a = 0) = false := by simpa using ha0
            go_wp2_with (go_at_call 16; refine (num_any _ _).mono ?_; rintro e w' ⟨rfl, rfl⟩)
            go_ret
            exact ⟨rfl, unhide HB4⟩

end Go.Proofs.Ytfcflnnleadpkaa
