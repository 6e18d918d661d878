import Derived.Test.YtfcflnnleadpkaaGreatFgJ
namespace Go.Proofs.YtfcflnnleadpkaaGreat
open Go.RowKit
variable {D : FD} {w : World} {st : WS}

def raF (D : FD) (st : WS) (a b : Nat) : WS := if jn D.R D.n a b = a then st else { st with ra := true }
theorem raF_yes {a b : Nat} (h : jn D.R D.n a b = a) : raF D st a b = st := by unfold raF; rw [if_pos h]
theorem raF_no {a b : Nat} (h : ¬ jn D.R D.n a b = a) : raF D st a b = { st with ra := true } := by unfold raF; rw [if_neg h]

set_option maxHeartbeats 1000000 in
set_option maxRecDepth 100000 in
theorem fRaise (O : FOk D) (h : Fl D w st) {a b : Nat} (ha : a < D.n) (hb : b < D.n) :
    Calls Tryz.prog 86 #[.pointer (some ⟨D.b, 0, none⟩), .int .i64 (a : Int), .int .i64 (b : Int)] w fun e w' => e = .returned (.int .i64 (jn D.R D.n a b : Nat)) ∧ Fl D w' (raF D st a b) ∧ Kf D.b w w' := by
  have kr := h.ra
  have zr := h.fz 1062
  cases hR : D.R b a
  · have HN := hide (show ¬ jn D.R D.n a b = a from fun e => by have := (O.A.of_jn ha hb e).1; rw [hR] at this; cases this)
    go_enter Tryz.func86, Tryz.ntmps86
    go_wp2_with fail
    refine (fBelow O.n8 h hb ha).mono ?_
    rintro e w' ⟨rfl, rfl⟩
    rw [hR]
    go_wp2_with fail
    refine (fJoin O.A O.n8 (h.setR true) ha hb).mono ?_
    rintro e w' ⟨rfl, rfl⟩
    go_wp2_with fail
    go_ret
    exact ⟨rfl, by rw [raF_no (unhide HN)]; exact h.setR true, (Kf.refl _ _).setCell _ _ h⟩
  · have HN := hide (show jn D.R D.n a b = a from O.A.jn_eq ⟨hR, hb, ha⟩)
    go_enter Tryz.func86, Tryz.ntmps86
    go_wp2_with fail
    refine (fBelow O.n8 h hb ha).mono ?_
    rintro e w' ⟨rfl, rfl⟩
    rw [hR]
    go_wp2_with fail
    go_ret
    exact ⟨by rw [unhide HN]; rfl, by rw [raF_yes (unhide HN)]; exact h, Kf.refl _ _⟩

theorem demP_yes {R : Nat → Nat → Bool} {a b k : Nat} (h : st.bad < 0 ∧ R a b = false) : demP R st a b k = { st with bad := (k : Int) } := by unfold demP; rw [if_pos h]
theorem demP_no {R : Nat → Nat → Bool} {a b k : Nat} (h : ¬ (st.bad < 0 ∧ R a b = false)) : demP R st a b k = st := by unfold demP; rw [if_neg h]

set_option maxHeartbeats 1000000 in
set_option maxRecDepth 100000 in
theorem fDemB (O : FOk D) (h : Fl D w st) {a b i : Nat} (ha : a < D.n) (hb : b < D.n) :
    Calls Tryz.prog 104 #[.pointer (some ⟨D.b, 0, none⟩), .int .i64 (i : Int), .int .i64 (a : Int), .int .i64 (b : Int)] w fun e w' => e = .returned (.tuple #[]) ∧ Fl D w' (demP D.R st a b i) ∧ Kf D.b w w' := by
  have k0 := h.c0
  have k1 := h.c1
  have z0 := h.fz 0
  have z1 := h.fz 1
  by_cases hB : st.bad < 0
  · have e0 : eB st.bad = 0 := by unfold eB; rw [if_pos hB]
    rw [e0] at k0
    cases hR : D.R a b
    · have HN := hide (demP_yes (k := i) (And.intro hB hR))
      have HS := hide (h.setB (b := (i : Int)) (e := 6) (p := (i : Int)) (by unfold eB; rw [if_neg (by omega)]) (by unfold pB; rw [if_neg (by omega)]))
      have HK := hide (show Kf D.b w ((w.setCell ⟨D.b, 0, none⟩ (.int .i64 6)).setCell ⟨D.b, 1, none⟩ (.int .i64 (i : Int))) from by
        rw [setCell_eq_setRow w D.b _ _ _ _ _ h]
        exact Kf.setCell (by have := (Kf.refl D.b w).setCell 0 (.int .i64 6) h; rw [setCell_eq_setRow w D.b _ _ _ _ _ h] at this; exact this) _ _ (setRow_heap w D.b _ _ _ _ h))
      go_enter Tryz.func104, Tryz.ntmps104
      go_wp2_with fail
      refine (fBelow O.n8 h ha hb).mono ?_
      rintro e w' ⟨rfl, rfl⟩
      rw [hR]
      go_wp2_with fail
      go_end0
      exact ⟨rfl, by rw [unhide HN]; exact unhide HS, unhide HK⟩
    · have HN := hide (demP_no (R := D.R) (st := st) (a := a) (b := b) (k := i) (fun x => by rw [hR] at x; cases x.2))
      go_enter Tryz.func104, Tryz.ntmps104
      go_wp2_with fail
      refine (fBelow O.n8 h ha hb).mono ?_
      rintro e w' ⟨rfl, rfl⟩
      rw [hR]
      go_wp2_with fail
      go_end0
      exact ⟨rfl, by rw [unhide HN]; exact h, Kf.refl _ _⟩
  · have e0 : eB st.bad = 6 := by unfold eB; rw [if_neg hB]
    rw [e0] at k0
    have HN := hide (demP_no (R := D.R) (st := st) (a := a) (b := b) (k := i) (fun x => hB x.1))
    go_enter Tryz.func104, Tryz.ntmps104
    go_wp2_with fail
    go_end0
    exact ⟨rfl, by rw [unhide HN]; exact h, Kf.refl _ _⟩


theorem setF_same {F : Nat → Nat} {k : Nat} : setF F k (F k) = F := by funext j; unfold setF; split <;> simp_all
theorem raV_set {v a : Nat} : raV D.R D.n st v a = { raF D st (st.V v) a with V := setF st.V v (jn D.R D.n (st.V v) a) } := by
  unfold raV raF
  by_cases h : jn D.R D.n (st.V v) a = st.V v
  · rw [if_pos h, if_pos h, h, setF_same]
  · rw [if_neg h, if_neg h]
theorem raX_set {v a : Nat} : raX D.R D.n st v a = { raF D st (st.X v) a with X := setF st.X v (jn D.R D.n (st.X v) a) } := by
  unfold raX raF
  by_cases h : jn D.R D.n (st.X v) a = st.X v
  · rw [if_pos h, if_pos h, h, setF_same]
  · rw [if_neg h, if_neg h]
theorem raT_set {v a : Nat} : raT D.R D.n st v a = { raF D st (st.T v) a with T := setF st.T v (jn D.R D.n (st.T v) a) } := by
  unfold raT raF
  by_cases h : jn D.R D.n (st.T v) a = st.T v
  · rw [if_pos h, if_pos h, h, setF_same]
  · rw [if_neg h, if_neg h]
theorem raF_V {a b : Nat} : (raF D st a b).V = st.V ∧ (raF D st a b).X = st.X ∧ (raF D st a b).T = st.T := by
  unfold raF; split <;> exact ⟨rfl, rfl, rfl⟩

/-- What the text says of the variables. -/
structure VOk (D : FD) : Prop where
  lev : ∀ k, k < D.nv → bt D.s k ≠ 63 → ∃ d : Nat, bt D.s k - 48 = (d : Int) ∧ fixV (bt D.s) D.n k = (d : Int) ∧ d < D.n
  opn : ∀ k, k < D.nv → bt D.s k = 63 → fixV (bt D.s) D.n k < 0

set_option maxHeartbeats 1000000 in
set_option maxRecDepth 100000 in
theorem fDemV (O : FOk D) (VO : VOk D) (hr : InR D.n D.nv D.np st) (h : Fl D w st) {a i m k : Nat} {x : Int} (hx : x = (m : Int)) (hm : m < D.s.size) (hmk : bt D.s m - 97 = (k : Int)) (hk : k < D.nv) (ha : a < D.n) :
    Calls Tryz.prog 102 #[.pointer (some ⟨D.b, 0, none⟩), .int .i64 (i : Int), .int .i64 x, .int .i64 (a : Int)] w fun e w' => e = .returned (.tuple #[]) ∧ Fl D w' (atLP D.R D.n (fixV (bt D.s) D.n) st k a i) ∧ Kf D.b w w' := by
  subst hx
  have HM := hide hmk
  clear hmk
  have hks : k < D.s.size := by have := O.vs; omega
  have hk8 : (k : Int) < 8 := by have := O.nv; omega
  have hk8n : k < 8 := by have := O.nv; omega
  have kv := h.lv (k := k) hk8n
  have zv := h.fz (1046 + k)
  have hV := hr.V k hk
  by_cases h63 : bt D.s k = 63
  · have HA := hide (show atLP D.R D.n (fixV (bt D.s) D.n) st k a i = raV D.R D.n st k a by unfold atLP; rw [if_pos (VO.opn k hk h63)])
    have hb : (bt D.s k == 63) = true := by rw [h63]; rfl
    clear h63
    go_enter Tryz.func102, Tryz.ntmps102
    go_wp2_with fail
    refine (pVar_at _ _ 134 m D.s rfl h.tx hm (unhide HM)).mono ?_
    rintro e w' ⟨rfl, rfl⟩
    go_wp2_with fail
    refine (pOpen _ _ 134 k D.s h.tx hks).mono ?_
    rintro e w' ⟨rfl, rfl⟩
    rw [hb]
    go_wp2_with fail
    go_region_with (go_at_call 86; refine (fRaise O h.drew hV ha).mono ?_; rintro e w2 ⟨rfl, hf2, hk2⟩; have HF2 := hide hf2; have HK2 := hide hk2; have kv2 := hf2.lv (k := k) hk8n; have zv2 := hf2.fz (1046 + k); clear hf2 hk2)
    all_goals
      go_wp2_with fail
      refine bodyPost_ret (results_none rfl _ _ _) rfl ⟨rfl, ?_, ?_⟩
      · rw [unhide HA, raV_set]
        have h9 := (unhide HF2).setV (x := jn D.R D.n (st.V k) a) hk8n
        rw [(raF_V (D := D) (st := st)).1] at h9
        exact h9
      · exact (((Kf.refl _ _).drewN 1).trans (unhide HK2)).setCell _ _ (unhide HF2)
  · have HA := hide (show atLP D.R D.n (fixV (bt D.s) D.n) st k a i = demP D.R st a (st.V k) i by
      unfold atLP; rw [if_neg (by obtain ⟨d, _, e, _⟩ := VO.lev k hk h63; omega)])
    have hb : (bt D.s k == 63) = false := by simpa using h63
    clear h63
    go_enter Tryz.func102, Tryz.ntmps102
    go_wp2_with fail
    refine (pVar_at _ _ 134 m D.s rfl h.tx hm (unhide HM)).mono ?_
    rintro e w' ⟨rfl, rfl⟩
    go_wp2_with fail
    refine (pOpen _ _ 134 k D.s h.tx hks).mono ?_
    rintro e w' ⟨rfl, rfl⟩
    rw [hb]
    go_wp2_with fail
    refine (fDemB O h ha hV).mono ?_
    rintro e w2 ⟨rfl, hf2, hk2⟩
    have HF2 := hide hf2
    have HK2 := hide hk2
    clear hf2 hk2
    go_wp2_with fail
    go_end0
    exact ⟨rfl, by rw [unhide HA]; exact unhide HF2, unhide HK2⟩

end Go.Proofs.YtfcflnnleadpkaaGreat

namespace Go.Proofs.YtfcflnnleadpkaaGreat
open Go.RowKit
variable {D : FD} {w : World} {st : WS}

def DmOk (D : FD) (f : Nat) : Prop := ∀ (w : World) (st : WS) (i p j : Nat), Fl D w st → InR D.n D.nv D.np st → wfS (bt D.s) D.nv D.n D.np f i = (j, false) → tbS (bt D.s) D.nv D.n D.np D.T f i → p < D.n →
    Calls Tryz.prog 84 #[.pointer (some ⟨D.b, 0, none⟩), .int .i64 (i : Int), .int .i64 (p : Int)] w fun e w' => e = .returned (.tuple #[]) ∧ Fl D w' (pS (bt D.s) D.R D.n (fixV (bt D.s) D.n) f i p st) ∧ Kf D.b w w'
theorem DmOk.at {f i j p : Nat} (H : DmOk D f) {x : Int} (hx : x = (i : Int)) (h : Fl D w st) (hr : InR D.n D.nv D.np st) (hw : wfS (bt D.s) D.nv D.n D.np f i = (j, false)) (htb : tbS (bt D.s) D.nv D.n D.np D.T f i) (hp : p < D.n) :
    Calls Tryz.prog 84 #[.pointer (some ⟨D.b, 0, none⟩), .int .i64 x, .int .i64 (p : Int)] w fun e w' => e = .returned (.tuple #[]) ∧ Fl D w' (pS (bt D.s) D.R D.n (fixV (bt D.s) D.n) f i p st) ∧ Kf D.b w w' := by
  subst hx; exact H w st i p j h hr hw htb hp
/-- Beside the flow, while labels rise: the parts of a statement. -/
structure PK (D : FD) (st : WS) (w wk : World) (a b c : Int) : Prop where
  fl : Fl D wk st
  kf : Kf D.b w wk
  pb : wk.heap[w.heap.size]? = some (.cells #[.int .i64 a, .int .i64 b, .int .i64 c] 48 (0, 0))
  lt : D.b < w.heap.size
theorem PK.start {a b c : Int} (h : Fl D w st) : PK D st w (w.alloc (.cells #[.int .i64 a, .int .i64 b, .int .i64 c] 48)) a b c := ⟨h.allocd _, Kf.of_below ((Below.refl _ _).alloc (Nat.le_refl _) _), heap_alloc_last w _, (Array.getElem?_eq_some_iff.1 h).1⟩
theorem PK.size {wk : World} {a b c : Int} (h : PK D st w wk a b c) : w.heap.size < wk.heap.size := (Array.getElem?_eq_some_iff.1 h.pb).1
theorem PK.next {wk w' : World} {a b c : Int} {r : WS} (h : PK D st w wk a b c) (hf : Fl D w' r) (hb : Kf D.b wk w') : PK D r w w' a b c := ⟨hf, h.kf.trans hb, (hb.block _ h.size (by have := h.lt; omega)).trans h.pb, h.lt⟩
theorem PK.below {wk w' : World} {a b c : Int} (h : PK D st w wk a b c) (hb : Below wk.heap.size wk w') : PK D st w w' a b c := h.next (h.fl.below hb) (Kf.of_below hb)
theorem PK.drew {wk : World} {a b c : Int} (h : PK D st w wk a b c) : PK D st w wk.drew a b c := ⟨h.fl, h.kf.drewN 1, h.pb, h.lt⟩
theorem PK.c0 {wk : World} {a b c : Int} (h : PK D st w wk a b c) : wk.cell? ⟨w.heap.size, 0, none⟩ = some (.int .i64 a) := by rw [cell_of_row wk _ 0 _ _ _ h.pb]; rfl
theorem PK.c1 {wk : World} {a b c : Int} (h : PK D st w wk a b c) : wk.cell? ⟨w.heap.size, 1, none⟩ = some (.int .i64 b) := by rw [cell_of_row wk _ 1 _ _ _ h.pb]; rfl
theorem PK.c2 {wk : World} {a b c : Int} (h : PK D st w wk a b c) : wk.cell? ⟨w.heap.size, 2, none⟩ = some (.int .i64 c) := by rw [cell_of_row wk _ 2 _ _ _ h.pb]; rfl

set_option maxHeartbeats 1000000 in
set_option maxRecDepth 100000 in
theorem dem_dot (O : FOk D) {f i j p : Nat} (h : Fl D w st) (hw : wfS (bt D.s) D.nv D.n D.np (f + 1) i = (j, false)) (hc : bt D.s i = 46) :
    Calls Tryz.prog 84 #[.pointer (some ⟨D.b, 0, none⟩), .int .i64 (i : Int), .int .i64 (p : Int)] w fun e w' => e = .returned (.tuple #[]) ∧ Fl D w' (pS (bt D.s) D.R D.n (fixV (bt D.s) D.n) (f + 1) i p st) ∧ Kf D.b w w' := by
  have hi : i < D.s.size := bt_lt (by rw [hc]; omega)
  have hbq := bt_eq D.s i hi
  rw [hc] at hbq
  have hi' : (i : Int) < (D.s.size : Int) := by omega
  have hi3 : (i : Int) < 300 := by have := O.sz; omega
  have p0 := h.pt (i := i) (k := 0) (by omega) (by omega)
  have p1 := h.pt (i := i) (k := 1) (by omega) (by omega)
  have p2 := h.pt (i := i) (k := 2) (by omega) (by omega)
  simp only [Nat.add_zero] at p0
  have k2 := h.tx
  have k1 := h.bo O.A
  have hbz : D.b < w.heap.size := (Array.getElem?_eq_some_iff.1 h).1
  have HE := hide (pS_plain (c := bt D.s) (R := D.R) (n := D.n) (fx := fixV (bt D.s) D.n) (f := f) (p := p) (st := st) (Or.inl hc))
  have _ := hw
  clear hw
  go_enter Tryz.func84, Tryz.ntmps84
  go_wp2_with fail
  go_end0
  exact ⟨rfl, by rw [unhide HE]; exact (PK.start h).fl, (PK.start h).kf⟩

set_option maxHeartbeats 1000000 in
set_option maxRecDepth 100000 in
theorem dem_x (O : FOk D) {f i j p : Nat} (h : Fl D w st) (hw : wfS (bt D.s) D.nv D.n D.np (f + 1) i = (j, false)) (hc : bt D.s i = 120) :
    Calls Tryz.prog 84 #[.pointer (some ⟨D.b, 0, none⟩), .int .i64 (i : Int), .int .i64 (p : Int)] w fun e w' => e = .returned (.tuple #[]) ∧ Fl D w' (pS (bt D.s) D.R D.n (fixV (bt D.s) D.n) (f + 1) i p st) ∧ Kf D.b w w' := by
  have hi : i < D.s.size := bt_lt (by rw [hc]; omega)
  have hbq := bt_eq D.s i hi
  rw [hc] at hbq
  have hi' : (i : Int) < (D.s.size : Int) := by omega
  have hi3 : (i : Int) < 300 := by have := O.sz; omega
  have p0 := h.pt (i := i) (k := 0) (by omega) (by omega)
  have p1 := h.pt (i := i) (k := 1) (by omega) (by omega)
  have p2 := h.pt (i := i) (k := 2) (by omega) (by omega)
  simp only [Nat.add_zero] at p0
  have k2 := h.tx
  have k1 := h.bo O.A
  have hbz : D.b < w.heap.size := (Array.getElem?_eq_some_iff.1 h).1
  have HE := hide (pS_plain (c := bt D.s) (R := D.R) (n := D.n) (fx := fixV (bt D.s) D.n) (f := f) (p := p) (st := st) (Or.inr hc))
  have _ := hw
  clear hw
  go_enter Tryz.func84, Tryz.ntmps84
  go_wp2_with fail
  go_end0
  exact ⟨rfl, by rw [unhide HE]; exact (PK.start h).fl, (PK.start h).kf⟩

set_option maxHeartbeats 1000000 in
set_option maxRecDepth 100000 in
theorem dem_seq (O : FOk D) (hr : InR D.n D.nv D.np st) {f i j p : Nat} (TH : ∀ st, InR D.n D.nv D.np st → ThOk D st f) (DM : DmOk D f) (h : Fl D w st) (hw : wfS (bt D.s) D.nv D.n D.np (f + 1) i = (j, false)) (htb : tbS (bt D.s) D.nv D.n D.np D.T (f + 1) i) (hp : p < D.n) (hc : bt D.s i = 44) :
    Calls Tryz.prog 84 #[.pointer (some ⟨D.b, 0, none⟩), .int .i64 (i : Int), .int .i64 (p : Int)] w fun e w' => e = .returned (.tuple #[]) ∧ Fl D w' (pS (bt D.s) D.R D.n (fixV (bt D.s) D.n) (f + 1) i p st) ∧ Kf D.b w w' := by
  have hi : i < D.s.size := bt_lt (by rw [hc]; omega)
  have hbq := bt_eq D.s i hi
  rw [hc] at hbq
  have hi' : (i : Int) < (D.s.size : Int) := by omega
  have hi3 : (i : Int) < 300 := by have := O.sz; omega
  have p0 := h.pt (i := i) (k := 0) (by omega) (by omega)
  have p1 := h.pt (i := i) (k := 1) (by omega) (by omega)
  have p2 := h.pt (i := i) (k := 2) (by omega) (by omega)
  simp only [Nat.add_zero] at p0
  have k2 := h.tx
  have k1 := h.bo O.A
  have hbz : D.b < w.heap.size := (Array.getElem?_eq_some_iff.1 h).1
  obtain ⟨k, e1, e2⟩ := wfS_inv_seq hw (Or.inl hc)
  obtain ⟨t0, t1, tb1, tb2⟩ := htb.1 (Or.inl hc)
  rw [e1] at t1 tb2
  obtain ⟨w1, _, _⟩ := wd_ok (c := bt D.s) O.A.L O.A.n1 hr.V hr.T f (i + 1) p k e1 hp
  obtain ⟨r1, _, _⟩ := pS_low (fx := fixV (bt D.s) D.n) (c := bt D.s) O.A f (i + 1) p k st e1 hp hr
  have HE := hide (pS_seq (c := bt D.s) (R := D.R) (n := D.n) (fx := fixV (bt D.s) D.n) (f := f) (p := p) (st := st) (Or.inl hc))
  rw [w1] at HE
  rw [t0] at p0
  rw [t1] at p1
  have HTH := hide TH
  have HDM := hide DM
  have HT1 := hide tb1
  have HT2 := hide tb2
  have HS1 := hide e1
  have HS2 := hide e2
  clear hw htb t0 t1 tb1 tb2 e1 e2 TH DM w1
  go_enter Tryz.func84, Tryz.ntmps84
  go_wp2_with fail
  refine ((unhide HDM).at (i := i + 1) (by omega) (PK.start h).fl hr (unhide HS1) (unhide HT1) hp).mono ?_
  rintro e w2 ⟨rfl, hf2, hk2⟩
  have hp2 := (PK.start h).next hf2 hk2
  have HP2 := hide hp2
  have q0 := hp2.c0
  clear hf2 hk2 hp2 p0 p1 p2 k1 k2
  generalize pS (bt D.s) D.R D.n (fixV (bt D.s) D.n) f (i + 1) p st = st1 at *
  have a2 := (wd_ok (c := bt D.s) O.A.L O.A.n1 r1.V r1.T f (i + 1) p k (unhide HS1) hp).2.1
  go_wp2_with fail
  refine (fBehind_at O r1 (i := i + 1) (by omega) (unhide HTH st1 r1) (unhide HP2).fl (unhide HS1) (unhide HT1) hp).mono ?_
  rintro e w3 ⟨rfl, hb3⟩
  have hp3 := (unhide HP2).below hb3
  have HP3 := hide hp3
  have q1 := hp3.c1
  clear hb3 hp3 q0
  have hx := O.A.lt hp a2
  generalize jn D.R D.n p (wd (bt D.s) D.R D.n st1.V st1.T f (i + 1) p).2.1 = x at *
  go_wp2_with fail
  refine ((unhide HDM).at (i := k) rfl (unhide HP3).fl r1 (unhide HS2) (unhide HT2) hx).mono ?_
  rintro e w4 ⟨rfl, hf4, hk4⟩
  have HP4 := hide ((unhide HP3).next hf4 hk4)
  clear hf4 hk4
  go_wp2_with fail
  go_end0
  exact ⟨rfl, by rw [unhide HE]; exact (unhide HP4).fl, (unhide HP4).kf⟩

set_option maxHeartbeats 1000000 in
set_option maxRecDepth 100000 in
theorem dem_t (O : FOk D) (hr : InR D.n D.nv D.np st) {f i j p : Nat} (TH : ∀ st, InR D.n D.nv D.np st → ThOk D st f) (DM : DmOk D f) (h : Fl D w st) (hw : wfS (bt D.s) D.nv D.n D.np (f + 1) i = (j, false)) (htb : tbS (bt D.s) D.nv D.n D.np D.T (f + 1) i) (hp : p < D.n) (hc : bt D.s i = 116) :
    Calls Tryz.prog 84 #[.pointer (some ⟨D.b, 0, none⟩), .int .i64 (i : Int), .int .i64 (p : Int)] w fun e w' => e = .returned (.tuple #[]) ∧ Fl D w' (pS (bt D.s) D.R D.n (fixV (bt D.s) D.n) (f + 1) i p st) ∧ Kf D.b w w' := by
  have hi : i < D.s.size := bt_lt (by rw [hc]; omega)
  have hbq := bt_eq D.s i hi
  rw [hc] at hbq
  have hi' : (i : Int) < (D.s.size : Int) := by omega
  have hi3 : (i : Int) < 300 := by have := O.sz; omega
  have p0 := h.pt (i := i) (k := 0) (by omega) (by omega)
  have p1 := h.pt (i := i) (k := 1) (by omega) (by omega)
  have p2 := h.pt (i := i) (k := 2) (by omega) (by omega)
  simp only [Nat.add_zero] at p0
  have k2 := h.tx
  have k1 := h.bo O.A
  have hbz : D.b < w.heap.size := (Array.getElem?_eq_some_iff.1 h).1
  obtain ⟨k, e1, e2⟩ := wfS_inv_seq hw (Or.inr hc)
  obtain ⟨t0, t1, tb1, tb2⟩ := htb.1 (Or.inr hc)
  rw [e1] at t1 tb2
  obtain ⟨w1, _, _⟩ := wd_ok (c := bt D.s) O.A.L O.A.n1 hr.V hr.T f (i + 1) p k e1 hp
  obtain ⟨r1, _, _⟩ := pS_low (fx := fixV (bt D.s) D.n) (c := bt D.s) O.A f (i + 1) p k st e1 hp hr
  have HE := hide (pS_seq (c := bt D.s) (R := D.R) (n := D.n) (fx := fixV (bt D.s) D.n) (f := f) (p := p) (st := st) (Or.inr hc))
  rw [w1] at HE
  rw [t0] at p0
  rw [t1] at p1
  have HTH := hide TH
  have HDM := hide DM
  have HT1 := hide tb1
  have HT2 := hide tb2
  have HS1 := hide e1
  have HS2 := hide e2
  clear hw htb t0 t1 tb1 tb2 e1 e2 TH DM w1
  go_enter Tryz.func84, Tryz.ntmps84
  go_wp2_with fail
  refine ((unhide HDM).at (i := i + 1) (by omega) (PK.start h).fl hr (unhide HS1) (unhide HT1) hp).mono ?_
  rintro e w2 ⟨rfl, hf2, hk2⟩
  have hp2 := (PK.start h).next hf2 hk2
  have HP2 := hide hp2
  have q0 := hp2.c0
  clear hf2 hk2 hp2 p0 p1 p2 k1 k2
  generalize pS (bt D.s) D.R D.n (fixV (bt D.s) D.n) f (i + 1) p st = st1 at *
  have a2 := (wd_ok (c := bt D.s) O.A.L O.A.n1 r1.V r1.T f (i + 1) p k (unhide HS1) hp).2.1
  go_wp2_with fail
  refine (fBehind_at O r1 (i := i + 1) (by omega) (unhide HTH st1 r1) (unhide HP2).fl (unhide HS1) (unhide HT1) hp).mono ?_
  rintro e w3 ⟨rfl, hb3⟩
  have hp3 := (unhide HP2).below hb3
  have HP3 := hide hp3
  have q1 := hp3.c1
  clear hb3 hp3 q0
  have hx := O.A.lt hp a2
  generalize jn D.R D.n p (wd (bt D.s) D.R D.n st1.V st1.T f (i + 1) p).2.1 = x at *
  go_wp2_with fail
  refine ((unhide HDM).at (i := k) rfl (unhide HP3).fl r1 (unhide HS2) (unhide HT2) hx).mono ?_
  rintro e w4 ⟨rfl, hf4, hk4⟩
  have HP4 := hide ((unhide HP3).next hf4 hk4)
  clear hf4 hk4
  go_wp2_with fail
  go_end0
  exact ⟨rfl, by rw [unhide HE]; exact (unhide HP4).fl, (unhide HP4).kf⟩

set_option maxHeartbeats 1000000 in
set_option maxRecDepth 100000 in
theorem dem_eq (O : FOk D) (hr : InR D.n D.nv D.np st) {f i j p : Nat} (VO : VOk D) (HX : ∀ f st, InR D.n D.nv D.np st → ExOk D st f) (h : Fl D w st) (hw : wfS (bt D.s) D.nv D.n D.np (f + 1) i = (j, false)) (htb : tbS (bt D.s) D.nv D.n D.np D.T (f + 1) i) (hp : p < D.n) (hc : bt D.s i = 61) :
    Calls Tryz.prog 84 #[.pointer (some ⟨D.b, 0, none⟩), .int .i64 (i : Int), .int .i64 (p : Int)] w fun e w' => e = .returned (.tuple #[]) ∧ Fl D w' (pS (bt D.s) D.R D.n (fixV (bt D.s) D.n) (f + 1) i p st) ∧ Kf D.b w w' := by
  have hi : i < D.s.size := bt_lt (by rw [hc]; omega)
  have hbq := bt_eq D.s i hi
  rw [hc] at hbq
  have hi' : (i : Int) < (D.s.size : Int) := by omega
  have hi3 : (i : Int) < 300 := by have := O.sz; omega
  have p0 := h.pt (i := i) (k := 0) (by omega) (by omega)
  have p1 := h.pt (i := i) (k := 1) (by omega) (by omega)
  have p2 := h.pt (i := i) (k := 2) (by omega) (by omega)
  simp only [Nat.add_zero] at p0
  have k2 := h.tx
  have k1 := h.bo O.A
  have hbz : D.b < w.heap.size := (Array.getElem?_eq_some_iff.1 h).1
  obtain ⟨e1, e2⟩ := wfS_inv_eq hw hc
  obtain ⟨t0, t1, t2⟩ := htb.2.1 hc
  have HE := hide (pS_eq (c := bt D.s) (R := D.R) (n := D.n) (fx := fixV (bt D.s) D.n) (f := f) (p := p) (st := st) hc)
  obtain ⟨d, ed, hd⟩ := isVar_nat e1
  have hi1 : i + 1 < D.s.size := isVar_lt e1
  rw [ed] at HE
  obtain ⟨_, a2, _⟩ := condW_ok (c := bt D.s) O.A.L O.A.n1 hr.V hp e2
  rw [t0] at p0
  rw [t1] at p1
  have HXX := hide HX
  have HT := hide t2
  have HS := hide e2
  have HD := hide ed
  clear hw htb t0 t1 t2 e2 HX e1 ed
  go_enter Tryz.func84, Tryz.ntmps84
  go_wp2_with fail
  refine (fUnder_at O hr (i := i + 2) (by omega) (unhide HXX f st hr) (PK.start h).fl (unhide HS) (unhide HT) hp).mono ?_
  rintro e w2 ⟨rfl, hb2⟩
  have hp2 := (PK.start h).below hb2
  have HP2 := hide hp2
  have q0 := hp2.c0
  clear hb2 hp2 p0 p1 p2 k1 k2
  generalize (condW (bt D.s) D.R D.n st.V f (i + 2) p).2.1 = x at *
  go_wp2_with fail
  refine (fDemV O VO hr (unhide HP2).fl (m := i + 1) (by omega) hi1 (unhide HD) hd a2).mono ?_
  rintro e w3 ⟨rfl, hf3, hk3⟩
  have HP3 := hide ((unhide HP2).next hf3 hk3)
  clear hf3 hk3
  go_wp2_with fail
  go_end0
  exact ⟨rfl, by rw [unhide HE]; exact (unhide HP3).fl, (unhide HP3).kf⟩

end Go.Proofs.YtfcflnnleadpkaaGreat
