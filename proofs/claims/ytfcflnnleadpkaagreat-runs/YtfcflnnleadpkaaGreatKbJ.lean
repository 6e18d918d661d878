import Derived.Test.YtfcflnnleadpkaaGreatFkJ
import Derived.Deep.QuietTactic
import Derived.Deep.RegionWith
import Derived.BigQuiet
import Derived.Deep.LoopGhost
import Derived.Deep.AppendLies
namespace Go.Proofs.YtfcflnnleadpkaaGreat
open Go.RowKit

theorem tmod_bd (x : Int) : -65536 ≤ x.tmod 65536 ∧ x.tmod 65536 < 65536 := by
  by_cases h : x.tmod 65536 < 0
  · have := mod_neg h; omega
  · have := mod_pos h; omega
theorem mod_two (x : Int) : (x.tmod 65536 + 65536).tmod 65536 = (mdV x : Int) := by
  rw [mdV_eq]
  have h0 : 0 ≤ x.tmod 65536 + 65536 := by
    have := (tmod_bd x).1
    omega
  rw [Int.tmod_eq_emod_of_nonneg h0]
  by_cases h : x.tmod 65536 < 0
  · have := mod_neg h; omega
  · have := mod_pos h; omega

set_option maxHeartbeats 400000 in
theorem pMod (w : World) (x : Int) : Calls Tryz.prog 89 #[.int .i64 x] w fun e w' => e = .returned (.int .i64 (mdV x : Int)) ∧ w' = w := by
  have HC := hide (show (x.tmod 65536 + 65536) % 65536 = (mdV x : Int) by
    have h0 : 0 ≤ x.tmod 65536 + 65536 := by have := (tmod_bd x).1; omega
    have h9 := mod_two x
    rw [Int.tmod_eq_emod_of_nonneg h0] at h9
    exact h9)
  have ⟨h1, h2⟩ := tmod_bd x
  obtain ⟨y, hy⟩ : ∃ y, x.tmod 65536 = y := ⟨_, rfl⟩
  rw [hy] at HC h1 h2
  go_enter Tryz.func89, Tryz.ntmps89
  go_wp2_with fail
  go_ret
  exact ⟨by rw [← unhide HC]; rfl, rfl⟩

theorem mdV_add {a b : Nat} : mdV ((a : Int) + (b : Int)) = (a + b) % 65536 := by unfold mdV; omega
theorem mdV_sub {a b : Nat} (hb : b < 65536) : mdV ((a : Int) - (b : Int)) = (a + 65536 - b) % 65536 := by unfold mdV; omega
theorem mdV_nat (m : Nat) : mdV (m : Int) = m % 65536 := by unfold mdV; omega

set_option maxHeartbeats 1000000 in
theorem pOperate (w : World) {o : Int} {a b : Nat} (ha : a < 65536) (hb : b < 65536) (h5 : isOp o = true) :
    Calls Tryz.prog 109 #[.int .u8 o, .int .i64 (a : Int), .int .i64 (b : Int)] w fun e w' => e = .returned (tupV (opV o a b)) ∧ w' = w := by
  rcases isOp_five h5 with rfl | rfl | rfl | rfl | rfl
  · clear h5
    go_enter Tryz.func109, Tryz.ntmps109
    go_wp2_with fail
    refine (pMod _ _).mono ?_
    rintro e w' ⟨rfl, rfl⟩
    rw [mdV_add]
    go_wp2_with fail
    go_ret2
    exact ⟨by rw [opV_add]; rfl, rfl⟩
  · clear h5
    go_enter Tryz.func109, Tryz.ntmps109
    go_wp2_with fail
    refine (pMod _ _).mono ?_
    rintro e w' ⟨rfl, rfl⟩
    rw [mdV_sub hb]
    go_wp2_with fail
    go_ret2
    exact ⟨by rw [opV_sub]; rfl, rfl⟩
  · clear h5
    obtain ⟨ab, hab⟩ : ∃ ab, a * b = ab := ⟨_, rfl⟩
    have hmul : ab < 4294967296 := by
      have : a * b ≤ 65535 * 65535 := Nat.mul_le_mul (by omega) (by omega)
      omega
    have hcast : (a : Int) * (b : Int) = (ab : Int) := by rw [← hab]; simp
    have HX : Hid (opV 42 a b = some (ab % 65536)) := by rw [← hab]; exact opV_mul
    clear hab
    go_enter Tryz.func109, Tryz.ntmps109
    go_wp2_with fail
    refine (pMod _ _).mono ?_
    rintro e w' ⟨rfl, rfl⟩
    rw [mdV_nat]
    go_wp2_with fail
    go_ret2
    exact ⟨by rw [unhide HX]; rfl, rfl⟩
  · clear h5
    by_cases hbz : b = 0
    · subst hbz
      go_enter Tryz.func109, Tryz.ntmps109
      go_wp2_with fail
      go_ret2
      exact ⟨by rw [opV_div0]; rfl, rfl⟩
    · have hbz' : decide ((b : Int) = 0) = false := by simp; omega
      have hbz2 : (b : Int) ≠ 0 := by omega
      have HQ : Hid (wrap64 ((a : Int) / (b : Int)) = ((a / b : Nat) : Int)) := by
        have h1 : (a : Int) / (b : Int) = ((a / b : Nat) : Int) := by simp
        have h2 := Nat.div_le_self a b
        rw [h1]
        generalize a / b = c at *
        unfold wrap64
        show (_ : Int) = _
        omega
      have HX : Hid (opV 47 a b = some (a / b)) := opV_div hbz
      go_enter Tryz.func109, Tryz.ntmps109
      go_wp2_with fail
      go_ret2
      exact ⟨by rw [unhide HX]; simp only [tupV]; rw [← unhide HQ]; rfl, rfl⟩
  · clear h5
    by_cases hlt : a < b
    · have hlt' : (a : Int) < (b : Int) := by omega
      go_enter Tryz.func109, Tryz.ntmps109
      go_wp2_with fail
      go_ret2
      exact ⟨by rw [opV_lt1 hlt]; rfl, rfl⟩
    · have hlt' : decide ((a : Int) < (b : Int)) = false := by simp; omega
      go_enter Tryz.func109, Tryz.ntmps109
      go_wp2_with fail
      go_ret2
      exact ⟨by rw [opV_lt0 hlt]; rfl, rfl⟩

variable {G : RD} {F : Nat} {w : World} {ov : Value} {st : RS} {k : Nat}

set_option maxHeartbeats 400000 in
theorem pFuel0 (h : PAt G w ov st k) (h0 : st.fuel = 0) : Calls Tryz.prog 50 #[.pointer (some ⟨G.b, 0, none⟩)] w fun e w' => e = .returned (.bool false) ∧ w' = w := by
  have k5 := h.cf
  rw [h0] at k5
  go_enter Tryz.func50, Tryz.ntmps50
  go_wp2_with fail
  go_ret
  exact ⟨rfl, rfl⟩
set_option maxHeartbeats 400000 in
theorem pFuel1 (b0 : G.w0.heap.size ≤ G.b) (h : PAt G w ov st k) (h0 : st.fuel ≠ 0) (hf : st.fuel ≤ 10000) : Calls Tryz.prog 50 #[.pointer (some ⟨G.b, 0, none⟩)] w fun e w' => e = .returned (.bool true) ∧ PAt G w' ov (dec st) k := by
  have k5 := h.cf
  have z5 := h.fz 929
  have hf' : decide ((st.fuel : Int) ≤ 0) = false := by simp; omega
  have HD : Hid (PAt G (w.setCell ⟨G.b, 929, none⟩ (.int .i64 ((st.fuel : Int) - 1))) ov (dec st) k) := by
    rw [show ((st.fuel : Int) - 1) = ((st.fuel - 1 : Nat) : Int) by omega]; exact hide (h.setFu b0)
  clear h
  go_enter Tryz.func50, Tryz.ntmps50
  go_wp2_with fail
  go_ret
  exact ⟨rfl, unhide HD⟩

def PvOk (G : RD) (f : Nat) : Prop := ∀ (w : World) (ov : Value) (st : RS) (k i j : Nat), PAt G w ov st k → (∀ v, st.V v < 65536) → scE (bt G.D.s) G.D.nv f i = (j, false) → tbE (bt G.D.s) G.D.nv G.D.T f i →
    Calls Tryz.prog 87 #[.pointer (some ⟨G.b, 0, none⟩), .int .i64 (i : Int)] w fun e w' => e = .returned (tupV (evE (bt G.D.s) st.V f i)) ∧ Below w.heap.size w w'
theorem PvOk.at {f : Nat} (H : PvOk G f) {w : World} {ov : Value} {st : RS} {k : Nat} {x : Int} {i j : Nat} (hx : x = (i : Int)) (h : PAt G w ov st k) (hV : ∀ v, st.V v < 65536) (hs : scE (bt G.D.s) G.D.nv f i = (j, false)) (ht : tbE (bt G.D.s) G.D.nv G.D.T f i) :
    Calls Tryz.prog 87 #[.pointer (some ⟨G.b, 0, none⟩), .int .i64 x] w fun e w' => e = .returned (tupV (evE (bt G.D.s) st.V f i)) ∧ Below w.heap.size w w' := by
  subst hx; exact H w ov st k i j h hV hs ht

set_option maxHeartbeats 1600000 in
set_option maxRecDepth 100000 in
theorem pVal (O : FOk G.D) : ∀ f, PvOk G f := by
  intro f
  induction f with
  | zero => intro w ov st k i j _ _ h; simp [scE] at h
  | succ f ih0 =>
    intro w ov st k i j h hV hsc htb
    have IH := hide ih0
    clear ih0
    have HH := hide h
    have kS := h.tx
    have HVV := hide hV
    have ⟨hb0, hb1⟩ := bt_bd G.D.s i
    cases ho : isOp (bt G.D.s i)
    · obtain ⟨rfl, h2⟩ := scE_inv_leaf hsc ho
      clear hsc htb
      rcases h2 with h2 | ⟨h2, h3⟩
      · have hi := isDB_lt h2
        have hbq := bt_eq G.D.s i hi
        have hi' : (i : Int) < (G.D.s.size : Int) := by omega
        have HE := hide (evE_dig (U := st.V) (f := f) ho h2)
        have hv : isVar G.D.nv (bt G.D.s i) = false := by have := (isDB_iff _ _).1 h2; unfold isVar; simp; omega
        have h48 : 48 ≤ bt G.D.s i := ((isDB_iff _ _).1 h2).1
        have HN := hide (show bt G.D.s i - 48 = (((bt G.D.s i - 48).toNat : Nat) : Int) by omega)
        clear h2 h hV
        go_enter Tryz.func87, Tryz.ntmps87
        go_wp2_with fail
        refine (pIsVar _ _ 0 G.D.nv _ (unhide HH).cv hb0 hb1).mono ?_
        rintro e w' ⟨rfl, rfl⟩
        rw [hv]
        go_wp2_with fail
        refine (pOp _ _).mono ?_
        rintro e w' ⟨rfl, rfl⟩
        rw [ho]
        go_wp2_with fail
        refine (pDigit _ _ 0 _ _ (unhide HH).tx hi h48).mono ?_
        rintro e w' ⟨rfl, rfl⟩
        go_wp2_with fail
        go_ret2
        exact ⟨by rw [unhide HE]; simp only [tupV]; rw [← unhide HN]; rfl, Below.refl _ _⟩
      · have hi := isVar_lt h3
        have hbq := bt_eq G.D.s i hi
        have hi' : (i : Int) < (G.D.s.size : Int) := by omega
        have HE := hide (evE_var (U := st.V) (f := f) ho h2)
        obtain ⟨v, hv, hvn⟩ := isVar_nat h3
        have kv := h.ca (v := v) (by have := O.nv; omega)
        have hv8 : (v : Int) < 8 := by have := O.nv; omega
        have h97 : 97 ≤ bt G.D.s i := by omega
        have HK := hide (show (bt G.D.s i - 97).toNat = v by omega)
        have HKK := hide hv
        have hvv := h3
        clear h2 h3 hv h hV
        go_enter Tryz.func87, Tryz.ntmps87
        go_wp2_with fail
        refine (pIsVar _ _ 0 G.D.nv _ (unhide HH).cv hb0 hb1).mono ?_
        rintro e w' ⟨rfl, rfl⟩
        rw [hvv]
        go_wp2_with fail
        go_region_with (go_at_call 88; refine (pVar _ _ 0 _ _ ((unhide HH).drew).tx hi h97).mono ?_; rintro e w' ⟨rfl, rfl⟩; rw [unhide HKK])
        all_goals
          go_wp2_with fail
          go_ret2
          exact ⟨by rw [unhide HE, unhide HK]; rfl, (Below.refl _ _).drew⟩
    · obtain ⟨m, e1, e2⟩ := scE_inv_op hsc ho
      have hi := isOp_lt ho
      have hbq := bt_eq G.D.s i hi
      have hi' : (i : Int) < (G.D.s.size : Int) := by omega
      have hi3 : (i : Int) < 300 := by have := O.sz; omega
      obtain ⟨t0, t1, tb1, tb2⟩ := htb ho
      rw [e1] at t1 tb2
      have p0 := h.pt (i := i) (j := 0) (by omega) (by omega)
      have p1 := h.pt (i := i) (j := 1) (by omega) (by omega)
      have p2 := h.pt (i := i) (j := 2) (by omega) (by omega)
      rw [t0] at p0
      rw [t1] at p1
      simp only [Nat.add_zero] at p0
      have hv : isVar G.D.nv (bt G.D.s i) = false := by
        have h9 : bt G.D.s i ≤ 60 := by
          have h8 := ho
          unfold isOp at h8
          simp at h8
          omega
        unfold isVar; simp; omega
      have HE := hide (evE_op (U := st.V) (f := f) ho)
      have E1 := hide e1
      have E2 := hide e2
      have T1 := hide tb1
      have T2 := hide tb2
      have HSK := hide (skE_of f (i + 1) m f e1 (Nat.le_refl _))
      rw [unhide HSK] at HE
      have HLA := hide (fun y => evE_lt (c := bt G.D.s) hV f (i + 1) y)
      have HLB := hide (fun y => evE_lt (c := bt G.D.s) hV f m y)
      have hbz := h.lt
      clear hsc e1 e2 h hV htb tb1 tb2 t0 t1
      obtain ⟨xa, HXA⟩ : ∃ xa, Hid (evE (bt G.D.s) st.V f (i + 1) = xa) := ⟨_, rfl⟩
      obtain ⟨xb, HXB⟩ : ∃ xb, Hid (evE (bt G.D.s) st.V f m = xb) := ⟨_, rfl⟩
      rw [unhide HXA, unhide HXB] at HE
      rw [unhide HXA] at HLA
      rw [unhide HXB] at HLB
      go_enter Tryz.func87, Tryz.ntmps87
      go_wp2_with fail
      refine (pIsVar _ _ 0 G.D.nv _ (unhide HH).cv hb0 hb1).mono ?_
      rintro e w' ⟨rfl, rfl⟩
      rw [hv]
      go_wp2_with fail
      refine (pOp _ _).mono ?_
      rintro e w' ⟨rfl, rfl⟩
      rw [ho]
      go_wp2_with fail
      refine ((unhide IH).at (i := i + 1) (by omega) ((unhide HH).alloc _) (unhide HVV) (unhide E1) (unhide T1)).mono ?_
      rintro e w1 ⟨rfl, hb1'⟩
      rw [unhide HXA]
      have g1 := (hb1'.block w'.heap.size (by simp)).trans (heap_alloc_last w' _)
      have q1 : w1.cell? ⟨w'.heap.size, 1, none⟩ = some (.int .i64 (m : Int)) := by rw [cell_of_row w1 _ 1 _ _ _ g1]; rfl
      have HB1 := hide (show Below w'.heap.size w' w1 from ((Below.refl _ _).alloc (Nat.le_refl _) _).trans (hb1'.mono (by simp)))
      have HH1 := hide ((unhide HH).below (unhide HB1))
      clear hb1' g1 p0 p1 p2 kS
      cases xa with
      | none =>
        simp only [tupV]
        go_wp2_with fail
        go_ret2
        exact ⟨by rw [unhide HE]; rfl, unhide HB1⟩
      | some a =>
        have ha := unhide HLA a rfl
        simp only [tupV]
        go_wp2_with fail
        refine ((unhide IH).at (i := m) rfl (unhide HH1) (unhide HVV) (unhide E2) (unhide T2)).mono ?_
        rintro e w2 ⟨rfl, hb2'⟩
        rw [unhide HXB]
        have HB2 := hide ((unhide HB1).trans (hb2'.mono (unhide HB1).size))
        clear hb2' q1
        cases xb with
        | none =>
          simp only [tupV]
          go_wp2_with fail
          go_ret2
          exact ⟨by rw [unhide HE]; rfl, unhide HB2⟩
        | some b =>
          have hb := unhide HLB b rfl
          simp only [tupV]
          go_wp2_with fail
          refine (pOperate _ ha hb ho).mono ?_
          rintro e w' ⟨rfl, rfl⟩
          have HE2 := hide (show evE (bt G.D.s) st.V (f + 1) i = opV (bt G.D.s i) a b from unhide HE)
          obtain ⟨xo, HXO⟩ : ∃ xo, Hid (opV (bt G.D.s i) a b = xo) := ⟨_, rfl⟩
          rw [unhide HXO]
          cases xo with
          | none =>
            simp only [tupV]
            go_wp2_with fail
            go_ret2
            exact ⟨by rw [unhide HE2, unhide HXO]; rfl, unhide HB2⟩
          | some y =>
            simp only [tupV]
            go_wp2_with fail
            go_ret2
            exact ⟨by rw [unhide HE2, unhide HXO]; rfl, unhide HB2⟩

end Go.Proofs.YtfcflnnleadpkaaGreat

namespace Go.Proofs.YtfcflnnleadpkaaGreat
open Go.RowKit

/-- A statement is run as it should be. -/
def PsOk (G : RD) (F g : Nat) : Prop := ∀ (w : World) (ov : Value) (st : RS) (k i j f : Nat), PAt G w ov st k → RunI G.D.n st → wfS (bt G.D.s) G.D.nv G.D.n G.D.np f i = (j, false) → tbS (bt G.D.s) G.D.nv G.D.n G.D.np G.D.T f i → f ≤ F → st.fuel ≤ g → k ≤ 8 →
    Calls Tryz.prog 23 #[.pointer (some ⟨G.b, 0, none⟩), .int .i64 (i : Int)] w fun e w' => e = .returned (.int .i64 ((exD G F g i k st).2 : Int)) ∧ ∃ ov', PAt G w' ov' (exD G F g i k st).1 k
/-- What a piece of a run comes to. -/
def PrAt (G : RD) (k : Nat) (r : RS × Nat) (e : Ending) (w' : World) : Prop := e = .returned (.int .i64 (r.2 : Int)) ∧ ∃ ov', PAt G w' ov' r.1 k

variable {G : RD} {F : Nat} {w : World} {ov : Value} {st : RS} {k : Nat}

set_option maxHeartbeats 1000000 in
set_option maxRecDepth 100000 in
theorem pBoth (K : QK G F) {g : Nat} (IH : Hid (PsOk G F g)) (h : PAt G w ov st k) (hi : RunI G.D.n st) (hg : st.fuel ≤ g) (hk : k ≤ 8) {x y : Int} {a b ja jb f : Nat} (hx : x = (a : Int)) (hy : y = (b : Int)) (hF : f ≤ F)
    (e1 : wfS (bt G.D.s) G.D.nv G.D.n G.D.np f a = (ja, false)) (e2 : wfS (bt G.D.s) G.D.nv G.D.n G.D.np f b = (jb, false)) (t1 : tbS (bt G.D.s) G.D.nv G.D.n G.D.np G.D.T f a) (t2 : tbS (bt G.D.s) G.D.nv G.D.n G.D.np G.D.T f b) :
    Calls Tryz.prog 51 #[.pointer (some ⟨G.b, 0, none⟩), .int .i64 x, .int .i64 y] w (PrAt G k (thenW 1 (exD G F g a k st) (exD G F g b k))) := by
  subst hx hy
  have HH := hide h
  have HI := hide hi
  have E1 := hide e1
  have E2 := hide e2
  have T1 := hide t1
  have T2 := hide t2
  obtain ⟨r, HR⟩ : ∃ r, Hid (exD G F g a k st = r) := ⟨_, rfl⟩
  have HIR : Hid (RunI G.D.n r.1) := by rw [← unhide HR]; exact K.ex hi e1 hF
  have HGR : Hid (r.1.fuel ≤ st.fuel) := by
    rw [← unhide HR]
    exact (exS_grow (c := bt G.D.s) (inp := G.inp) (P := fun k => (G.D.S (k + 1)).toNat) (F := F) g a k st).fuel
  rw [unhide HR]
  clear h hi e1 e2 t1 t2
  go_enter Tryz.func51, Tryz.ntmps51
  go_wp2_with fail
  refine (unhide IH w ov st k a ja f (unhide HH) (unhide HI) (unhide E1) (unhide T1) hF hg hk).mono ?_
  rintro e w2 ⟨rfl, ov2, hr2⟩
  rw [unhide HR] at hr2
  rw [unhide HR]
  obtain ⟨rs, re⟩ := r
  simp only at HIR HGR hr2
  have HR2 := hide hr2
  clear hr2
  by_cases hr1 : re = 1
  · subst hr1
    have HX := hide (show thenW 1 (rs, 1) (exD G F g b k) = exD G F g b k rs from if_pos rfl)
    go_wp2_with fail
    refine (unhide IH w2 ov2 rs k b jb f (unhide HR2) (unhide HIR) (unhide E2) (unhide T2) hF (by have := unhide HGR; omega) hk).mono ?_
    rintro e w3 ⟨rfl, ov3, hr3⟩
    have HR3 := hide hr3
    clear hr3
    go_wp2_with fail
    go_ret
    rw [unhide HX]
    exact ⟨rfl, ov3, unhide HR3⟩
  · have hr1' : decide ((re : Int) = 1) = false := by simp; omega
    have hr2' : ((re : Int) != 1) = true := by simp; omega
    have HX := hide (show thenW 1 (rs, re) (exD G F g b k) = (rs, re) from if_neg hr1)
    go_wp2_with fail
    go_ret
    rw [unhide HX]
    exact ⟨rfl, ov2, unhide HR2⟩

set_option maxHeartbeats 1000000 in
set_option maxRecDepth 100000 in
theorem pAttempt (K : QK G F) {g : Nat} (IH : Hid (PsOk G F g)) (h : PAt G w ov st k) (hi : RunI G.D.n st) (hg : st.fuel ≤ g) (hk : k ≤ 8) {x y : Int} {a b ja jb f : Nat} (hx : x = (a : Int)) (hy : y = (b : Int)) (hF : f ≤ F)
    (e1 : wfS (bt G.D.s) G.D.nv G.D.n G.D.np f a = (ja, false)) (e2 : wfS (bt G.D.s) G.D.nv G.D.n G.D.np f b = (jb, false)) (t1 : tbS (bt G.D.s) G.D.nv G.D.n G.D.np G.D.T f a) (t2 : tbS (bt G.D.s) G.D.nv G.D.n G.D.np G.D.T f b) :
    Calls Tryz.prog 57 #[.pointer (some ⟨G.b, 0, none⟩), .int .i64 x, .int .i64 y] w (PrAt G k (thenW 2 (exD G F g a k st) (exD G F g b k))) := by
  subst hx hy
  have HH := hide h
  have HI := hide hi
  have E1 := hide e1
  have E2 := hide e2
  have T1 := hide t1
  have T2 := hide t2
  obtain ⟨r, HR⟩ : ∃ r, Hid (exD G F g a k st = r) := ⟨_, rfl⟩
  have HIR : Hid (RunI G.D.n r.1) := by rw [← unhide HR]; exact K.ex hi e1 hF
  have HGR : Hid (r.1.fuel ≤ st.fuel) := by
    rw [← unhide HR]
    exact (exS_grow (c := bt G.D.s) (inp := G.inp) (P := fun k => (G.D.S (k + 1)).toNat) (F := F) g a k st).fuel
  rw [unhide HR]
  clear h hi e1 e2 t1 t2
  go_enter Tryz.func57, Tryz.ntmps57
  go_wp2_with fail
  refine (unhide IH w ov st k a ja f (unhide HH) (unhide HI) (unhide E1) (unhide T1) hF hg hk).mono ?_
  rintro e w2 ⟨rfl, ov2, hr2⟩
  rw [unhide HR] at hr2
  rw [unhide HR]
  obtain ⟨rs, re⟩ := r
  simp only at HIR HGR hr2
  have HR2 := hide hr2
  clear hr2
  by_cases hr1 : re = 2
  · subst hr1
    have HX := hide (show thenW 2 (rs, 2) (exD G F g b k) = exD G F g b k rs from if_pos rfl)
    go_wp2_with fail
    refine (unhide IH w2 ov2 rs k b jb f (unhide HR2) (unhide HIR) (unhide E2) (unhide T2) hF (by have := unhide HGR; omega) hk).mono ?_
    rintro e w3 ⟨rfl, ov3, hr3⟩
    have HR3 := hide hr3
    clear hr3
    go_wp2_with fail
    go_ret
    rw [unhide HX]
    exact ⟨rfl, ov3, unhide HR3⟩
  · have hr1' : decide ((re : Int) = 2) = false := by simp; omega
    have hr2' : ((re : Int) != 2) = true := by simp; omega
    have HX := hide (show thenW 2 (rs, re) (exD G F g b k) = (rs, re) from if_neg hr1)
    go_wp2_with fail
    go_ret
    rw [unhide HX]
    exact ⟨rfl, ov2, unhide HR2⟩

set_option maxHeartbeats 1000000 in
set_option maxRecDepth 100000 in
theorem pSet (K : QK G F) (h : PAt G w ov st k) (hi : RunI G.D.n st) {x y : Int} {a b j f : Nat} (hx : x = (a : Int)) (hy : y = (b : Int)) (hv : isVar G.D.nv (bt G.D.s a) = true) (hs : scE (bt G.D.s) G.D.nv f b = (j, false)) (ht : tbE (bt G.D.s) G.D.nv G.D.T f b) :
    Calls Tryz.prog 52 #[.pointer (some ⟨G.b, 0, none⟩), .int .i64 x, .int .i64 y] w (PrAt G k (setW st (bt G.D.s a - 97).toNat (evE (bt G.D.s) st.V f b))) := by
  subst hx hy
  have HH := hide h
  have HV := hide hi.sane.V
  have HS := hide hs
  have HT := hide ht
  obtain ⟨v, ev, hvn⟩ := isVar_nat hv
  have hi1 := isVar_lt hv
  have h97 : 97 ≤ bt G.D.s a := by omega
  have hv8 : (v : Int) < 8 := by have := K.K.O.nv; omega
  have HKK := hide ev
  rw [show (bt G.D.s a - 97).toNat = v by omega]
  clear h hi hs ht hv ev
  obtain ⟨r, HR⟩ : ∃ r, Hid (evE (bt G.D.s) st.V f b = r) := ⟨_, rfl⟩
  rw [unhide HR]
  go_enter Tryz.func52, Tryz.ntmps52
  go_wp2_with fail
  refine (pVal K.K.O f w ov st k b j (unhide HH) (unhide HV) (unhide HS) (unhide HT)).mono ?_
  rintro e w1 ⟨rfl, hb1⟩
  rw [unhide HR]
  have HH1 := hide ((unhide HH).below hb1)
  clear hb1
  cases r with
  | none =>
    simp only [tupV]
    go_wp2_with fail
    go_ret
    exact ⟨rfl, ov, unhide HH1⟩
  | some y =>
    simp only [tupV]
    have z1 := (unhide HH1).fz (921 + v)
    have HA := hide ((unhide HH1).setV K.b0 (v := v) (x := y) (by omega))
    have q1 := (unhide HH1).ca (v := v) (by omega)
    go_wp2_with fail
    refine (pVar _ _ 0 _ _ (unhide HH1).tx hi1 h97).mono ?_
    rintro e w' ⟨rfl, rfl⟩
    rw [unhide HKK]
    go_wp2_with fail
    go_ret
    exact ⟨rfl, ov, unhide HA⟩

set_option maxHeartbeats 1000000 in
set_option maxRecDepth 100000 in
theorem pChoose (K : QK G F) {g : Nat} (IH : Hid (PsOk G F g)) (h : PAt G w ov st k) (hi : RunI G.D.n st) (hg : st.fuel ≤ g) (hk : k ≤ 8) {x y z : Int} {a b c ja jb jc f : Nat} (hx : x = (a : Int)) (hy : y = (b : Int)) (hz : z = (c : Int)) (hF : f ≤ F)
    (e0 : scE (bt G.D.s) G.D.nv f a = (ja, false)) (t0 : tbE (bt G.D.s) G.D.nv G.D.T f a)
    (e1 : wfS (bt G.D.s) G.D.nv G.D.n G.D.np f b = (jb, false)) (e2 : wfS (bt G.D.s) G.D.nv G.D.n G.D.np f c = (jc, false)) (t1 : tbS (bt G.D.s) G.D.nv G.D.n G.D.np G.D.T f b) (t2 : tbS (bt G.D.s) G.D.nv G.D.n G.D.np G.D.T f c) :
    Calls Tryz.prog 53 #[.pointer (some ⟨G.b, 0, none⟩), .int .i64 x, .int .i64 y, .int .i64 z] w (PrAt G k (ifW st (evE (bt G.D.s) st.V f a) (exD G F g b k) (exD G F g c k))) := by
  subst hx hy hz
  have HH := hide h
  have HI := hide hi
  have E0 := hide e0
  have T0 := hide t0
  have E1 := hide e1
  have E2 := hide e2
  have T1 := hide t1
  have T2 := hide t2
  clear h hi e0 t0 e1 e2 t1 t2
  obtain ⟨r, HR⟩ : ∃ r, Hid (evE (bt G.D.s) st.V f a = r) := ⟨_, rfl⟩
  rw [unhide HR]
  go_enter Tryz.func53, Tryz.ntmps53
  go_wp2_with fail
  refine (pVal K.K.O f w ov st k a ja (unhide HH) (unhide HI).sane.V (unhide E0) (unhide T0)).mono ?_
  rintro e w1 ⟨rfl, hb1⟩
  rw [unhide HR]
  have HH1 := hide ((unhide HH).below hb1)
  clear hb1
  cases r with
  | none =>
    simp only [tupV]
    go_wp2_with fail
    go_ret
    exact ⟨rfl, ov, unhide HH1⟩
  | some y =>
    simp only [tupV]
    by_cases hy : y = 0
    · subst hy
      have HX := hide (show ifW st (some 0) (exD G F g b k) (exD G F g c k) = exD G F g c k st from rfl)
      go_wp2_with fail
      refine (unhide IH w1 ov st k c jc f (unhide HH1) (unhide HI) (unhide E2) (unhide T2) hF hg hk).mono ?_
      rintro e w3 ⟨rfl, ov3, hr3⟩
      have HR3 := hide hr3
      clear hr3
      go_wp2_with fail
      go_ret
      rw [unhide HX]
      exact ⟨rfl, ov3, unhide HR3⟩
    · have HX := hide (show ifW st (some y) (exD G F g b k) (exD G F g c k) = exD G F g b k st by unfold ifW; simp only; rw [if_neg hy])
      have hy' : decide ((y : Int) = 0) = false := by simp; omega
      have hy2 : ((y : Int) != 0) = true := by simp; omega
      go_wp2_with fail
      refine (unhide IH w1 ov st k b jb f (unhide HH1) (unhide HI) (unhide E1) (unhide T1) hF hg hk).mono ?_
      rintro e w3 ⟨rfl, ov3, hr3⟩
      have HR3 := hide hr3
      clear hr3
      go_wp2_with fail
      go_ret
      rw [unhide HX]
      exact ⟨rfl, ov3, unhide HR3⟩

end Go.Proofs.YtfcflnnleadpkaaGreat

namespace Go.Proofs.YtfcflnnleadpkaaGreat
open Go.RowKit

variable {G : RD} {F : Nat} {w : World} {ov : Value} {st : RS} {k : Nat}

set_option maxHeartbeats 1000000 in
set_option maxRecDepth 100000 in
theorem pCall (K : QK G F) {g : Nat} (IH : Hid (PsOk G F g)) (h : PAt G w ov st k) (hi : RunI G.D.n st) (hg : st.fuel ≤ g) (hk : k ≤ 8) {x : Int} {a d : Nat} (hx : x = (a : Int)) (hd : bt G.D.s a - 48 = (d : Int)) (hdn : d < G.D.np) (has : a < G.D.s.size) :
    Calls Tryz.prog 58 #[.pointer (some ⟨G.b, 0, none⟩), .int .i64 x] w (PrAt G k (if 8 ≤ k then (st, 2) else exD G F g (G.D.S (d + 1)).toNat (k + 1) st)) := by
  subst hx
  have HH := hide h
  have HI := hide hi
  have k6 := h.cc
  have z6 := h.fz 930
  obtain ⟨m, j, em, hj⟩ := K.K.Q.proc d hdn
  have em : G.D.S (d + 1) = (m : Int) := em
  have EJ := hide (show wfS (bt G.D.s) G.D.nv G.D.n G.D.np F m = (j, false) from hj)
  have TJ := hide (show tbS (bt G.D.s) G.D.nv G.D.n G.D.np G.D.T F m by
    have := K.K.tp d hdn
    rw [em, show ((m : Int)).toNat = m by omega] at this
    exact this)
  have h48 : 48 ≤ bt G.D.s a := by omega
  have HDD := hide hd
  have hnp := K.K.O.np
  by_cases h8 : 8 ≤ k
  · have h8' : decide ((8 : Int) ≤ (k : Int)) = true := by simp; omega
    rw [if_pos h8]
    clear h hi em hj hd
    go_enter Tryz.func58, Tryz.ntmps58
    go_wp2_with fail
    go_ret
    exact ⟨rfl, ov, unhide HH⟩
  · have h8' : decide ((8 : Int) ≤ (k : Int)) = false := by simp; omega
    rw [if_neg h8, em, show ((m : Int)).toNat = m by omega]
    have HUP : Hid (PAt G (w.setCell ⟨G.b, 930, none⟩ (.int .i64 ((k : Int) + 1))) ov st (k + 1)) := hide (h.setCa K.b0 (x := k + 1))
    obtain ⟨W, HW⟩ : ∃ W, Hid (w.setCell ⟨G.b, 930, none⟩ (.int .i64 ((k : Int) + 1)) = W) := ⟨_, rfl⟩
    rw [unhide HW] at HUP
    have p1 := (unhide HUP).ps (j := d + 1) (by omega)
    rw [em] at p1
    have p1' : W.cell? ⟨G.b, 6 + (d + 1), none⟩ = some (.int .i64 (m : Int)) := p1
    have hd5 : (d : Int) + 1 < 5 := by omega
    have htn : ((d : Int) + 1).toNat = d + 1 := by omega
    clear h hi em hj hd
    go_enter Tryz.func58, Tryz.ntmps58
    go_wp2_with fail
    refine (pDigit _ _ 0 _ _ (unhide HH).tx has h48).mono ?_
    rintro e w' ⟨rfl, rfl⟩
    rw [unhide HDD]
    go_wp2_with (rw [unhide HW])
    refine (unhide IH W ov st (k + 1) m j F (unhide HUP) (unhide HI) (unhide EJ) (unhide TJ) (Nat.le_refl _) hg (by omega)).mono ?_
    rintro e w2 ⟨rfl, ov2, hr2⟩
    obtain ⟨r, HR⟩ : ∃ r, Hid (exD G F g m (k + 1) st = r) := ⟨_, rfl⟩
    rw [unhide HR] at hr2
    rw [unhide HR]
    obtain ⟨rs, re⟩ := r
    simp only at hr2
    have y6 := hr2.cc
    have x6 := hr2.fz 930
    have hkk : ((k + 1 : Nat) : Int) = (k : Int) + 1 := by omega
    have HR2 : Hid (PAt G (w2.setCell ⟨G.b, 930, none⟩ (.int .i64 (k : Int))) ov2 rs k) := hide (hr2.setCa K.b0 (x := k))
    clear hr2
    rw [hkk] at y6
    go_wp2_with fail
    go_ret
    rw [unhide HR]
    exact ⟨rfl, ov2, unhide HR2⟩

/-- Where a loop stands: what is still to be run comes to the whole. -/
def LpD (G : RD) (F g b f a k : Nat) (A : RS × Nat) (n : Nat) (st : RS) : Prop := lpW (exD G F g b k) (fun V => evE (bt G.D.s) V f a) n st = A

set_option maxHeartbeats 2000000 in
set_option maxRecDepth 100000 in
theorem pLoop (K : QK G F) {g : Nat} (IH : Hid (PsOk G F g)) (h : PAt G w ov st k) (hi : RunI G.D.n st) (hg : st.fuel ≤ g) (hk : k ≤ 8) {x y : Int} {a b ja jb f : Nat} (hx : x = (a : Int)) (hy : y = (b : Int)) (hF : f ≤ F)
    (e0 : scE (bt G.D.s) G.D.nv f a = (ja, false)) (t0 : tbE (bt G.D.s) G.D.nv G.D.T f a) (e1 : wfS (bt G.D.s) G.D.nv G.D.n G.D.np f b = (jb, false)) (t1 : tbS (bt G.D.s) G.D.nv G.D.n G.D.np G.D.T f b) :
    Calls Tryz.prog 54 #[.pointer (some ⟨G.b, 0, none⟩), .int .i64 x, .int .i64 y] w (PrAt G k (lpW (exD G F g b k) (fun V => evE (bt G.D.s) V f a) g st)) := by
  subst hx hy
  have HH := hide h
  have HI := hide hi
  have E0 := hide e0
  have T0 := hide t0
  have E1 := hide e1
  have T1 := hide t1
  obtain ⟨A, HA⟩ : ∃ A, Hid (lpW (exD G F g b k) (fun V => evE (bt G.D.s) V f a) g st = A) := ⟨_, rfl⟩
  rw [unhide HA]
  have HLP : Hid (LpD G F g b f a k A g st) := hide (unhide HA)
  clear h hi e0 t0 e1 t1
  go_enter Tryz.func54, Tryz.ntmps54
  go_wp2_with fail
  go_loopg [] g (fun n wr => ∃ (sv : RS) (uv : Value), PAt G wr uv sv k ∧ RunI G.D.n sv ∧ sv.fuel ≤ n ∧ n ≤ g ∧ LpD G F g b f a k A n sv)
  case atStart => exact ⟨st, ov, unhide HH, unhide HI, hg, Nat.le_refl _, unhide HLP⟩
  case round =>
    obtain ⟨sv, uv, hat, hin, hfu, hng, hlp⟩ := hrel
    have HAT := hide hat
    have HIN := hide hin
    have HLQ := hide hlp
    clear hat hin hlp HH HI HLP
    obtain ⟨r0, HR0⟩ : ∃ r0, Hid (evE (bt G.D.s) sv.V f a = r0) := ⟨_, rfl⟩
    go_wp2_with fail
    refine (pVal K.K.O f _ uv sv k a ja (unhide HAT) (unhide HIN).sane.V (unhide E0) (unhide T0)).mono ?_
    rintro e w1 ⟨rfl, hb1⟩
    rw [unhide HR0]
    have HAT1 := hide ((unhide HAT).below hb1)
    clear hb1 HAT
    cases r0 with
    | none =>
      have HX := hide (show A = (sv, 2) from (unhide HLQ).symm.trans (lpW_none (unhide HR0)))
      simp only [tupV]
      go_wp2_with fail
      go_ret
      rw [unhide HX]
      exact ⟨rfl, uv, unhide HAT1⟩
    | some y =>
      simp only [tupV]
      by_cases hy : y = 0
      · subst hy
        have HX := hide (show A = (sv, 1) from (unhide HLQ).symm.trans (lpW_zero (unhide HR0)))
        go_wp2_with fail
        go_ret
        rw [unhide HX]
        exact ⟨rfl, uv, unhide HAT1⟩
      · have hy' : decide ((y : Int) = 0) = false := by simp; omega
        obtain ⟨r, HR⟩ : ∃ r, Hid (exD G F g b k sv = r) := ⟨_, rfl⟩
        have HIR : Hid (RunI G.D.n r.1) := by rw [← unhide HR]; exact K.ex (unhide HIN) (unhide E1) hF
        have HGR : Hid (r.1.fuel ≤ sv.fuel) := by
          rw [← unhide HR]
          exact (exS_grow (c := bt G.D.s) (inp := G.inp) (P := fun k => (G.D.S (k + 1)).toNat) (F := F) g b k sv).fuel
        have HSP : Hid (sv.fuel = 0 → r.2 = 0) := by
          intro h0
          rw [← unhide HR]
          unfold exD
          rw [exS_spent h0]
        have HST : Hid (r.2 ≠ 1 → A = r) := by
          intro hr
          rw [← unhide HR] at hr ⊢
          exact (unhide HLQ).symm.trans (lpW_stop (unhide HR0) hy hr)
        have HS0 : Hid (r.2 = 1 → r.1.fuel = 0 → A = (r.1, 0)) := by
          intro hr h0
          rw [← unhide HR] at hr h0 ⊢
          exact (unhide HLQ).symm.trans (lpW_spent (unhide HR0) hy hr h0)
        have HGO : Hid (r.2 = 1 → r.1.fuel ≠ 0 → LpD G F g b f a k A (gk - 1) (dec r.1)) := by
          intro hr h0
          have hg1 : gk ≠ 0 := by
            intro e0
            have := unhide HSP (by omega)
            omega
          obtain ⟨g', rfl⟩ : ∃ g', gk = g' + 1 := ⟨gk - 1, by omega⟩
          rw [← unhide HR] at hr h0 ⊢
          have h1 := unhide HLQ
          unfold LpD at h1 ⊢
          rw [lpW_go (unhide HR0) hy hr h0] at h1
          exact h1
        go_wp2_with fail
        refine (unhide IH w1 uv sv k b jb f (unhide HAT1) (unhide HIN) (unhide E1) (unhide T1) hF (by omega) hk).mono ?_
        rintro e w2 ⟨rfl, ov2, hr2⟩
        rw [unhide HR] at hr2
        rw [unhide HR]
        obtain ⟨rs, re⟩ := r
        simp only at HIR HGR HSP HST HS0 HGO hr2
        have HR2 := hide hr2
        clear hr2
        by_cases hr1 : re = 1
        · subst hr1
          by_cases hf0 : rs.fuel = 0
          · have HX := hide (unhide HS0 rfl hf0)
            go_wp2_with fail
            refine (pFuel0 (unhide HR2) hf0).mono ?_
            rintro e w' ⟨rfl, rfl⟩
            go_wp2_with fail
            go_ret
            rw [unhide HX]
            exact ⟨rfl, ov2, unhide HR2⟩
          · have HX := hide (unhide HGO rfl hf0)
            have HI3 : Hid (RunI G.D.n (dec rs)) := hide (unhide HIR).dec
            have hgr := unhide HGR
            have hfb : rs.fuel ≤ 10000 := by have := (unhide HIR).out; omega
            go_wp2_with fail
            refine (pFuel1 K.b0 (unhide HR2) hf0 hfb).mono ?_
            rintro e w3 ⟨rfl, hr3⟩
            have HR3 := hide hr3
            clear hr3
            go_wp2_with fail
            go_roundg (gk - 1)
            case measure =>
              have := unhide HSP
              omega
            case rel => exact ⟨dec rs, ov2, unhide HR3, unhide HI3, by show rs.fuel - 1 ≤ _; omega, by omega, unhide HX⟩
        · have HX := hide (unhide HST hr1)
          have hr1' : decide ((re : Int) = 1) = false := by simp; omega
          have hr2' : ((re : Int) != 1) = true := by simp; omega
          go_wp2_with fail
          go_ret
          rw [unhide HX]
          exact ⟨rfl, ov2, unhide HR2⟩

end Go.Proofs.YtfcflnnleadpkaaGreat
