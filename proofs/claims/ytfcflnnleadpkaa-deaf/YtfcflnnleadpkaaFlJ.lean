import Derived.Test.YtfcflnnleadpkaaFqJ
import Derived.Test.YtfcflnnleadpkaaGbJ
import Derived.Test.YtfcflnnleadpkaaGgJ
import Derived.Test.YtfcflnnleadpkaaTnJ
namespace Go.Proofs.Ytfcflnnleadpkaa
open Go.RowKit
variable {D : FD} {w : World} {st : WS} {f : Nat}

/-- The labels at the start. -/
def bV (D : FD) (F : Nat → Nat) (m : Nat) : Nat → Nat := fun k => if k < m then v0 (dE D) k else F k
def bB (D : FD) (F : Nat → Nat) (m : Nat) : Nat → Nat := fun k => if k < m then bot D.R D.n else F k
theorem bV_step {F : Nat → Nat} {m : Nat} : setF (bV D F m) m (v0 (dE D) m) = bV D F (m + 1) := by
  funext k; unfold setF bV
  by_cases e : k = m
  · rw [if_pos e, if_pos (by omega), e]
  · rw [if_neg e]
    by_cases h : k < m
    · rw [if_pos h, if_pos (by omega)]
    · rw [if_neg h, if_neg (by omega)]
theorem bB_step {F : Nat → Nat} {m : Nat} : setF (bB D F m) m (bot D.R D.n) = bB D F (m + 1) := by
  funext k; unfold setF bB
  by_cases e : k = m
  · rw [if_pos e, if_pos (by omega)]
  · rw [if_neg e]
    by_cases h : k < m
    · rw [if_pos h, if_pos (by omega)]
    · rw [if_neg h, if_neg (by omega)]
theorem bV_zero {F : Nat → Nat} : bV D F 0 = F := by funext k; unfold bV; rw [if_neg (by omega)]
theorem bB_zero {F : Nat → Nat} : bB D F 0 = F := by funext k; unfold bB; rw [if_neg (by omega)]
theorem setF_setF {F : Nat → Nat} {k x y : Nat} : setF (setF F k x) k y = setF F k y := by funext j; unfold setF; split <;> rfl
theorem begin_inv (G : GOk D f) : LInv (dE D) f { st with V := bV D st.V D.nv, X := bB D st.X D.np, T := bB D st.T D.np, ra := true } := by
  have hV : ∀ k, k < D.nv → bV D st.V D.nv k = v0 (dE D) k := fun k hk => by unfold bV; rw [if_pos hk]
  have hX : ∀ (F : Nat → Nat) k, k < D.np → bB D F D.np k = bot D.R D.n := fun F k hk => by unfold bB; rw [if_pos hk]
  have hb := bot_lt (R := D.R) G.O.A.n1
  have hv : ∀ k, k < D.nv → v0 (dE D) k < D.n ∧ (0 ≤ fxE (dE D) k → (v0 (dE D) k : Int) = fxE (dE D) k) := by
    intro k hk
    unfold v0
    by_cases e : bt D.s k = 63
    · have h1 := G.V.opn k hk e
      have h2 : ¬ 0 ≤ fixV (bt (dE D).s) (dE D).n k := by show ¬ 0 ≤ fixV (bt D.s) D.n k; omega
      rw [if_neg h2]
      exact ⟨hb, fun h => absurd h h2⟩
    · obtain ⟨d, _, h1, h2⟩ := G.V.lev k hk e
      have h3 : fixV (bt (dE D).s) (dE D).n k = (d : Int) := h1
      rw [if_pos (by rw [h3]; omega)]
      refine ⟨by rw [h3]; exact h2, fun _ => ?_⟩
      show (((fixV (bt (dE D).s) (dE D).n k).toNat : Nat) : Int) = fixV (bt (dE D).s) (dE D).n k
      rw [h3]; rfl
  refine ⟨⟨fun k hk => ?_, fun k hk => ?_, fun k hk => ?_⟩, fun k hk hf => ?_, fun V' X' T' h1 h2 h3 hF _ => ⟨fun k hk => ?_, fun k hk => ?_, fun k hk => ?_⟩, fun h => by cases h⟩
  · show bV D st.V D.nv k < D.n; rw [hV k hk]; exact (hv k hk).1
  · show bB D st.X D.np k < D.n; rw [hX _ k hk]; exact hb
  · show bB D st.T D.np k < D.n; rw [hX _ k hk]; exact hb
  · show (bV D st.V D.nv k : Int) = _; rw [hV k hk]; exact (hv k hk).2 hf
  · show Le D.R D.n (bV D st.V D.nv k) (V' k)
    rw [hV k hk]
    by_cases hf : 0 ≤ fxE (dE D) k
    · have e1 := (hv k hk).2 hf
      have e2 := hF k hk hf
      have e3 : v0 (dE D) k = V' k := by omega
      rw [e3]; exact G.O.A.refl (h1 k hk)
    · have e1 : v0 (dE D) k = bot D.R D.n := by
        have hf' : ¬ 0 ≤ fixV (bt (dE D).s) (dE D).n k := hf
        unfold v0
        rw [if_neg hf']; rfl
      rw [e1]; exact G.O.A.bl (h1 k hk)
  · show Le D.R D.n (bB D st.X D.np k) (X' k); rw [hX _ k hk]; exact G.O.A.bl (h2 k hk)
  · show Le D.R D.n (bB D st.T D.np k) (T' k); rw [hX _ k hk]; exact G.O.A.bl (h3 k hk)

set_option maxHeartbeats 2000000 in
set_option maxRecDepth 100000 in
theorem fBegin (G : GOk D f) (h : Fl D w st) : Calls Try.prog 76 #[.pointer (some ⟨D.b, 0, none⟩)] w fun e w' => e = .returned (.tuple #[]) ∧ (∃ st', Fl D w' st' ∧ LInv (dE D) f { st' with ra := true }) ∧ Kf D.b w w' := by
  have HI := hide (begin_inv (st := st) G)
  have HF0 := hide (show Fl D w { st with V := bV D st.V 0 } by rw [bV_zero]; exact h)
  clear h
  go_enter Try.func76, Try.ntmps76
  go_wp2_with fail
  go_loopw [2] (fun d wr => ∃ k : Nat, k ≤ D.nv ∧ d = .int .i64 (k : Int) ∧ Fl D wr { st with V := bV D st.V k } ∧ Kf D.b w wr) (fun d _ => D.nv - (intOf d).toNat)
  case atStart => exact ⟨0, Nat.zero_le _, rfl, unhide HF0, Kf.refl _ _⟩
  case round =>
    obtain ⟨k, hk, rfl, hf, hkf⟩ := hrel
    have kc := hf.cv
    have HF := hide hf
    have HK := hide hkf
    clear hkf
    by_cases hlt : k < D.nv
    · have h8 := G.O.nv
      have hk8 : k < 8 := by omega
      have hk8' : (k : Int) < 8 := by omega
      have hks : k < D.s.size := by have := G.O.vs; omega
      have kv := hf.lv (k := k) hk8
      have zv := hf.fz (1046 + k)
      have kb := hf.bo G.O.A
      have HF2 := hide (hf.setV (k := k) (x := bot D.R D.n) hk8)
      have HK2 := hide ((unhide HK).drewN 1 |>.setAny (1046 + k) (.int .i64 (bot D.R D.n : Nat)))
      clear hf
      go_wp2_with fail
      go_region
      all_goals
        go_wp2_with fail
        refine (pOpen _ _ 134 k D.s ((unhide HF2).drew).tx hks).mono ?_
        rintro e w' ⟨rfl, hw'⟩
        rw [hw']
        clear hw'
        cases ho : (bt D.s k == 63)
        · have h63 : bt D.s k ≠ 63 := by simpa using ho
          obtain ⟨d, e1, e2, e3⟩ := G.V.lev k hlt h63
          have HV := hide (show v0 (dE D) k = d by
            have e2' : fixV (bt (dE D).s) (dE D).n k = (d : Int) := e2
            unfold v0; rw [if_pos (by rw [e2']; omega), e2']; rfl)
          have HE1 := hide e1
          clear e1 e2 h63 kv kb kc
          have kv := ((unhide HF2).drew).lv (k := k) hk8
          have zv := ((unhide HF2).drew).fz (1046 + k)
          generalize hW : (wr.setCell ⟨D.b, 1046 + k, none⟩ (.int .i64 (bot D.R D.n : Nat))).drew = wq at *
          have HF3 := hide (show Fl D wq { st with V := setF (bV D st.V k) k (bot D.R D.n) } by rw [← hW]; exact (unhide HF2).drew)
          have HK3 := hide (show Kf D.b w wq by rw [← hW]; exact unhide HK2)
          clear hW
          go_wp2_with fail
          go_region_with (go_at_call 100; refine (pDigit_at _ _ 134 k D.s rfl ((unhide HF3).drew).tx hks (unhide HE1)).mono ?_; rintro e w' ⟨rfl, rfl⟩)
          all_goals
            go_wp2_with fail
            go_roundw
            case rel =>
              refine ⟨k + 1, by omega, by go_num, ?_, ((unhide HK3).drewN 1).setAny _ _⟩
              have h9 := (unhide HF3).drew.setV (k := k) (x := d) hk8
              rw [← bV_step, unhide HV, ← setF_setF (F := bV D st.V k) (k := k) (x := bot D.R D.n) (y := d)]
              exact h9
            case measure => simp [intOf]; omega
        · have h63 : bt D.s k = 63 := by simpa using ho
          have HV := hide (show v0 (dE D) k = bot D.R D.n by
            have e2 : ¬ 0 ≤ fixV (bt (dE D).s) (dE D).n k := by have := G.V.opn k hlt h63; show ¬ 0 ≤ fixV (bt D.s) D.n k; omega
            unfold v0; rw [if_neg e2]; rfl)
          clear h63
          go_wp2_with fail
          go_roundw
          case rel =>
            refine ⟨k + 1, by omega, by go_num, ?_, unhide HK2⟩
            rw [← bV_step, unhide HV]
            exact (unhide HF2).drew
          case measure => simp [intOf]; omega
    · have ek : k = D.nv := by omega
      subst ek
      have HF3 := hide (show Fl D wr { st with V := bV D st.V D.nv, X := bB D st.X 0, T := bB D st.T 0 } by rw [bB_zero, bB_zero]; exact unhide HF)
      clear hf
      go_wp2_with fail
      clear kc
      go_loopw [3] (fun d wr => ∃ k : Nat, k ≤ D.np ∧ d = .int .i64 (k : Int) ∧ Fl D wr { st with V := bV D st.V D.nv, X := bB D st.X k, T := bB D st.T k } ∧ Kf D.b w wr) (fun d _ => D.np - (intOf d).toNat)
      case atStart => exact ⟨0, Nat.zero_le _, rfl, unhide HF3, unhide HK⟩
      case round =>
        obtain ⟨k, hk, rfl, hf, hkf⟩ := hrel
        have kc := hf.cp
        have HF := hide hf
        have HK := hide hkf
        clear hkf
        by_cases hlt : k < D.np
        · have h4 := G.O.np
          have hk4 : k < 4 := by omega
          have hk4' : (k : Int) < 4 := by omega
          have kx := hf.lx (k := k) hk4
          have zx := hf.fz (1054 + k)
          have kb := hf.bo G.O.A
          have HF2 := hide (hf.setX (k := k) (x := bot D.R D.n) hk4)
          have HK2 := hide ((unhide HK).drewN 1 |>.setAny (1054 + k) (.int .i64 (bot D.R D.n : Nat)))
          clear hf
          go_wp2_with fail
          go_region
          all_goals
            go_wp2_with fail
            clear kx zx kb kc
            have kt := ((unhide HF2).drew).lt (k := k) hk4
            have zt := ((unhide HF2).drew).fz (1058 + k)
            have kb := ((unhide HF2).drew).bo G.O.A
            have HF4 := hide (((unhide HF2).drew).setT (k := k) (x := bot D.R D.n) hk4)
            generalize hW : (wr.setCell ⟨D.b, 1054 + k, none⟩ (.int .i64 (bot D.R D.n : Nat))).drew = wq at *
            have HK3 := hide (show Kf D.b w wq by rw [← hW]; exact unhide HK2)
            clear hW
            go_region
            all_goals
              go_wp2_with fail
              go_roundw
              case rel =>
                refine ⟨k + 1, by omega, by go_num, ?_, ((unhide HK3).setAny _ _).drewN 1⟩
                rw [← bB_step, ← bB_step]
                exact (unhide HF4).drew
              case measure => simp [intOf]; omega
        · have ek : k = D.np := by omega
          subst ek
          go_wp2_with fail
          go_end0
          exact ⟨rfl, ⟨_, unhide HF, unhide HI⟩, unhide HK⟩

theorem fFind (G : GOk D f) (h : Fl D w st) :
    Calls Try.prog 57 #[.pointer (some ⟨D.b, 0, none⟩)] w fun e w' => e = .returned (.tuple #[]) ∧ (∃ st', Fl D w' st' ∧ LInv (dE D) f st' ∧ st'.ra = false) ∧ Kf D.b w w' :=
  fLoop G (fun _ _ h => fBegin G h) h

end Go.Proofs.Ytfcflnnleadpkaa

namespace Go.Proofs.Ytfcflnnleadpkaa
open Go.RowKit

def noW : Nat → Nat := fun _ => 0
def noP : Nat → Nat → Int := fun _ _ => 0
def noV : Nat → Int := fun _ => 0
/-- The cells of a flow: any levels, any program. -/
def flwC (e p : Int) (L P : Nat → Value) (V X T : Nat → Nat) (ra : Bool) : Array Value := rowF (flwF e p L P V X T ra) 1063
def L0 : Nat → Value := latF 0 0 0 noT noJ 0
def P0 : Nat → Value := prgF 0 0 ByteArray.empty 0 0 0 noV noP (.slice none 0 0)
theorem info_flw : (Try.prog.info? 92).map (fun i => (i.zero, i.size)) = some (some (.agg (flwC 0 0 L0 P0 noW noW noW false)), 1063) := by kernel_rfl
theorem zero_flw : ∀ w, (zeroValue 92).run Try.prog w = .ok (.agg (flwC 0 0 L0 P0 noW noW noW false)) w := (zero_of_info info_flw).1
theorem size_flw : (Try.prog.info? 92).map (·.size) = some 1063 := (zero_of_info info_flw).2

theorem flwC_size (e p : Int) (L P : Nat → Value) (V X T : Nat → Nat) (ra : Bool) : (flwC e p L P V X T ra).size = 1063 := rowF_size _ _
theorem flwC_g {e p : Int} {L P : Nat → Value} {V X T : Nat → Nat} {ra : Bool} (k : Nat) (hk : k < 1063) : (flwC e p L P V X T ra)[k]? = some (flwF e p L P V X T ra k) := rowF_get _ _ _ hk
theorem flw_set0 {e p e' : Int} {L P : Nat → Value} {V X T : Nat → Nat} {ra : Bool} : (flwC e p L P V X T ra).setIfInBounds 0 (.int .i64 e') = flwC e' p L P V X T ra := by
  refine rowF_set rfl (fun k hk hne => ?_)
  unfold flwF; rw [if_neg hne, if_neg hne]
theorem flw_set1 {e p p' : Int} {L P : Nat → Value} {V X T : Nat → Nat} {ra : Bool} : (flwC e p L P V X T ra).setIfInBounds 1 (.int .i64 p') = flwC e p' L P V X T ra := by
  refine rowF_set rfl (fun k hk hne => ?_)
  unfold flwF; rw [if_neg hne, if_neg hne]
theorem flwF_one {e p : Int} {L P : Nat → Value} {V X T : Nat → Nat} {ra : Bool} (hL : ∀ k, (L k).oneCell' = true) (hP : ∀ k, (P k).oneCell' = true) (k : Nat) : (flwF e p L P V X T ra k).oneCell' = true := by
  unfold flwF
  repeat' split
  all_goals first | rfl | exact hL _ | exact hP _
theorem flwC_all {e p : Int} {L P : Nat → Value} {V X T : Nat → Nat} {ra : Bool} (hL : ∀ k, (L k).oneCell' = true) (hP : ∀ k, (P k).oneCell' = true) : (flwC e p L P V X T ra).all (·.oneCell') = true := rowF_all (flwF_one hL hP)

/-- A row laid over a row. -/
theorem fold_get (o : Nat) : ∀ (xs : List Value) (i : Nat) (C : Array Value) (k : Nat), o + i + xs.length ≤ C.size →
    ((xs.zipIdx i).foldl (fun cs x => cs.setIfInBounds (o + x.2) x.1) C)[k]? = if o + i ≤ k ∧ k < o + i + xs.length then xs[k - (o + i)]? else C[k]? := by
  intro xs
  induction xs with
  | nil => intro i C k _; simp; omega
  | cons x xs ih =>
    intro i C k h
    simp only [List.length_cons] at h
    simp only [List.zipIdx_cons, List.foldl_cons]
    rw [ih (i + 1) _ k (by simp; omega), Array.getElem?_setIfInBounds]
    simp only [List.length_cons]
    by_cases h1 : k = o + i
    · rw [if_neg (by omega), if_pos h1.symm, if_pos (by omega), if_pos (by omega), h1, Nat.sub_self]; rfl
    · by_cases h2 : o + i ≤ k ∧ k < o + i + (xs.length + 1)
      · rw [if_pos (by omega), if_pos h2, show k - (o + i) = (k - (o + (i + 1))) + 1 by omega]; rfl
      · rw [if_neg (by omega), if_neg (by omega), if_neg h2]
theorem fold_row (F G H : Nat → Value) (o m M : Nat) (hM : o + m ≤ M) (h1 : ∀ k, k < m → H (o + k) = F k) (h2 : ∀ k, k < M → (k < o ∨ o + m ≤ k) → H k = G k) :
    Array.foldl (fun cs (x : Value × Nat) => cs.setIfInBounds (o + x.2) x.1) (rowF G M) (rowF F m).zipIdx 0 m = rowF H M := by
  have hs : (rowF F m).zipIdx.size = m := by simp [rowF]
  have e1 : Array.foldl (fun cs (x : Value × Nat) => cs.setIfInBounds (o + x.2) x.1) (rowF G M) (rowF F m).zipIdx 0 m = (rowF F m).zipIdx.toList.foldl (fun cs x => cs.setIfInBounds (o + x.2) x.1) (rowF G M) := by
    rw [Array.foldl_toList, hs]
  rw [e1]
  have e2 : (rowF F m).zipIdx.toList = ((List.range m).map F).zipIdx 0 := by simp [rowF]
  rw [e2]
  apply Array.ext_getElem?
  intro k
  rw [fold_get o _ 0 _ k (by rw [rowF_size]; simp; omega)]
  simp only [List.length_map, List.length_range, Nat.add_zero]
  by_cases hk : k < M
  · rw [rowF_get H M k hk]
    by_cases hr : o ≤ k ∧ k < o + m
    · rw [if_pos hr]
      have h9 : k - o < m := by omega
      have h8 := h1 (k - o) h9
      rw [show o + (k - o) = k by omega] at h8
      rw [h8]
      simp [h9]
    · rw [if_neg hr, rowF_get G M k hk, h2 k hk (by omega)]
  · have e3 : (rowF H M)[k]? = none := by rw [Array.getElem?_eq_none]; rw [rowF_size]; omega
    have e4 : (rowF G M)[k]? = none := by rw [Array.getElem?_eq_none]; rw [rowF_size]; omega
    rw [e3, if_neg (by omega), e4]

/-- What 'readLevels' answers, by index. -/
def levF (o : ByteArray) (a p : Int) (n : Nat) : Nat → Value := if a = 0 then latF 0 0 n (cl o n) (jTo n (cl o n) n 0) (fbK (cl o n) (n - 1) : Nat) else latF a p n noT noJ 0
theorem levA_row (o : ByteArray) (a p : Int) (n : Nat) : levA o a p n = rowF (levF o a p n) 132 := by
  unfold levA levF
  split <;> rfl
theorem levF_one (o : ByteArray) (a p : Int) (n : Nat) (k : Nat) : (levF o a p n k).oneCell' = true := by
  unfold levF; split <;> exact latF_one _ _ _ _ _ _ _
theorem levF_c (o : ByteArray) {a p : Int} (n : Nat) (h : a = 0 → p = 0) : levF o a p n 0 = .int .i64 a ∧ levF o a p n 1 = .int .i64 p ∧ levF o a p n 2 = .int .i64 (n : Int) := by
  unfold levF
  by_cases ha : a = 0
  · rw [if_pos ha, ha, h ha]; exact ⟨rfl, rfl, rfl⟩
  · rw [if_neg ha]; exact ⟨rfl, rfl, rfl⟩
theorem flw_lay (o : ByteArray) (a p : Int) (n : Nat) : Array.foldl (fun cs (x : Value × Nat) => cs.setIfInBounds (2 + x.2) x.1) (flwC 0 0 L0 P0 noW noW noW false) (levA o a p n).zipIdx 0 132 = flwC 0 0 (levF o a p n) P0 noW noW noW false := by
  rw [levA_row]
  refine fold_row _ _ _ 2 132 1063 (by omega) (fun k hk => ?_) (fun k hk h => ?_)
  · unfold flwF; rw [if_neg (by omega), if_neg (by omega), if_pos (by omega), show 2 + k - 2 = k by omega]
  · unfold flwF
    repeat' split
    all_goals first | rfl | omega

theorem ret_flw {fn : Func} {k : Tmp} (h : fn.results = #[.cell k 92]) (tmps : Array Value) (w : World) (g : Nat) (C : Array Value) (hC : C.size = 1063)
    (hp : tmps.getD k undef = .pointer (some ⟨g, 0, none⟩)) (hg : w.heap[g]? = some (.cells C 92 (0, 0))) :
    (results fn tmps).run Try.prog w = .ok (.agg C) w :=
  results_cell_row h tmps w g _ _ _ _ hp hg Try.underlying92 rfl (by rw [hC]; exact size_flw)
theorem flw_ge {e p : Int} {L P : Nat → Value} {V X T : Nat → Nat} {ra : Bool} (k : Nat) (x : Value) (hx : flwF e p L P V X T ra k = x) (h : k < (flwC e p L P V X T ra).size) : (flwC e p L P V X T ra)[k] = x := (rowF_getE _ _ _ h).trans hx

set_option maxHeartbeats 4000000 in
set_option maxRecDepth 200000 in
theorem rf_order (w : World) (o s : ByteArray) (hbad : ∀ a p n, ReadPost o a p n → a ≠ 0) :
    Calls Try.prog 39 #[.string o, .string s] w fun e w' => (∃ a p n, ReadPost o a p n ∧ e = .returned (.agg (flwC a p (levF o a p n) P0 noW noW noW false))) ∧ Below w.heap.size w w' := by
  have hz := zero_flw
  have z0 := flwC_size 0 0 L0 P0 noW noW noW false
  go_enter Try.func39, Try.ntmps39
  go_wp2_with fail
  refine (readLevels_any _ _).mono ?_
  rintro e w1 ⟨⟨a, p, n, hr, hn, rfl⟩, hb⟩
  have HR := hide hr
  have ha := hbad a p n hr
  have hl := levF_c o n (ReadPost_p0 hr)
  have z1 := levA_size o a p n
  have z2 := flwC_size 0 0 (levF o a p n) P0 noW noW noW false
  have z3 := flwC_size a 0 (levF o a p n) P0 noW noW noW false
  have z4 := flwC_size a p (levF o a p n) P0 noW noW noW false
  have hfo := flw_lay o a p n
  have c2 := flw_ge (e := 0) (p := 0) (L := levF o a p n) (P := P0) (V := noW) (X := noW) (T := noW) (ra := false) 2 (.int .i64 a) hl.1
  have c3 := flw_ge (e := 0) (p := 0) (L := levF o a p n) (P := P0) (V := noW) (X := noW) (T := noW) (ra := false) 3 (.int .i64 p) hl.2.1
  have s0 := flw_set0 (e := 0) (p := 0) (e' := a) (L := levF o a p n) (P := P0) (V := noW) (X := noW) (T := noW) (ra := false)
  have s1 := flw_set1 (e := a) (p := 0) (p' := p) (L := levF o a p n) (P := P0) (V := noW) (X := noW) (T := noW) (ra := false)
  have c0 := flw_ge (e := a) (p := p) (L := levF o a p n) (P := P0) (V := noW) (X := noW) (T := noW) (ra := false) 0 (.int .i64 a) rfl
  have hst := store_arr size_flw (w1.alloc (.cells (flwC 0 0 L0 P0 noW noW noW false) 92)) w1.heap.size _ (flwC 0 0 (levF o a p n) P0 noW noW noW false) (flwC_size _ _ _ _ _ _ _ _) (flwC_size _ _ _ _ _ _ _ _) (flwC_all (levF_one _ _ _ _) (prgF_one rfl)) (heap_alloc_last w1 _)
  rw [World.setRow_alloc_new] at hst
  have ha' : (a != 0) = true := by simpa using ha
  have hsz : w.heap.size < w1.heap.size := by have := hb.size; simp at this; omega
  have g0 : (w1.alloc (.cells (flwC a p (levF o a p n) P0 noW noW noW false) 92)).heap[w.heap.size]? = some (.cells (flwC 0 0 L0 P0 noW noW noW false) 92) :=
    (heap_alloc_old _ _ hsz).trans ((hb.block _ (by simp)).trans (heap_alloc_last w _))
  have hst2 := store_arr size_flw _ w.heap.size _ (flwC a p (levF o a p n) P0 noW noW noW false) (flwC_size _ _ _ _ _ _ _ _) (flwC_size _ _ _ _ _ _ _ _) (flwC_all (levF_one _ _ _ _) (prgF_one rfl)) g0
  have HG := hide g0
  have HG1 := hide (heap_alloc_last w1 (.cells (flwC a p (levF o a p n) P0 noW noW noW false) 92))
  have HB := hide (show Below w.heap.size w (w1.alloc (.cells (flwC a p (levF o a p n) P0 noW noW noW false) 92)) from (((Below.refl _ _).alloc (Nat.le_refl _) _).trans (hb.mono (by simp))).trans ((Below.refl _ _).alloc (by omega) _))
  clear hr ha hl g0 hb
  go_wp2_with (refine wpList_load_row rfl 92 _ rfl w1.heap.size rfl 92 _ (0, 0) _ (unhide HG1) Try.underlying92 rfl (by rw [flwC_size]; exact size_flw) ?_)
  refine bodyPost_ret (v := .agg (flwC a p (levF o a p n) P0 noW noW noW false)) (ret_flw Try.results39 _ _ w.heap.size _ (flwC_size _ _ _ _ _ _ _ _) rfl (setRow_heap _ _ _ _ _ _ (unhide HG))) rfl ⟨⟨a, p, n, unhide HR, rfl⟩, ?_⟩
  exact below_setRow (unhide HB) (Nat.le_refl _) _

end Go.Proofs.Ytfcflnnleadpkaa

namespace Go.Proofs.Ytfcflnnleadpkaa
open Go.RowKit

theorem rdFin_ok {s : ByteArray} {N : Nat} (h : s.size ≤ 300) :
    (prE s N ≠ 0 → (rdFin s N).2.2.e = prE s N ∧ (rdFin s N).2.2.p = prP s N) ∧
    (prE s N = 0 → (rdFin s N).1 = (prPs s N).length ∧ ∃ j, Rd s N (prNv s N) (prPs s N) (prPs s N).length (rdFin s N).2.1 (rdFin s N).2.2 j) := by
  obtain ⟨A1, A2⟩ := rdAll_ok (s := s) (N := N) (nv := nvOf (bt s) N) (S := noS) (r := r0) rfl rfl rfl (fun _ => rfl)
  obtain ⟨j, b, D, Ps, hA⟩ : ∃ j b D Ps, prA s N = (j, b, D, Ps) := ⟨_, _, _, _, rfl⟩
  have hE : prE s N = if 300 < s.size then 1 else if b = true then 4 else if (prC s N).isSome = true then 5 else 0 := by unfold prE; rw [hA]
  have hP : prP s N = if 300 < s.size then 0 else if b = true then (j : Int) else match prC s N with | some k => (k : Int) | none => 0 := by unfold prP; rw [hA]; rfl
  have hC : prC s N = badCall (bt s) Ps.length D := by unfold prC; rw [hA]
  have hPs : prPs s N = Ps := by unfold prPs; rw [hA]
  rw [if_neg (by omega)] at hE hP
  cases b
  · rw [if_neg (by simp)] at hE hP
    obtain ⟨S', r', e1, e2, e3⟩ := A1 j D Ps rfl hA
    have hF : rdFin s N = (Ps.length, S', msR s Ps.length r') := by
      unfold rdFin
      rw [e1]
      simp only
      rw [if_pos e3.e]
    rw [hF]
    cases hc : prC s N with
    | none =>
      rw [hc] at hE
      have hm : msR s Ps.length r' = r' := by unfold msR; rw [e2, ← hC, hc]
      rw [hm, hPs]
      refine ⟨fun h => absurd (by rw [hE]; rfl) h, fun _ => ⟨rfl, j, e3⟩⟩
    | some k =>
      rw [hc] at hE hP
      have hm : msR s Ps.length r' = { r' with e := 5, p := (k : Int) } := by unfold msR; rw [e2, ← hC, hc]
      rw [hm]
      refine ⟨fun _ => ⟨by rw [hE]; rfl, by rw [hP]⟩, fun h0 => ?_⟩
      rw [hE] at h0
      cases h0
  · rw [if_pos rfl] at hE hP
    obtain ⟨q1, q2⟩ := A2 j D Ps rfl hA
    have hF : (rdFin s N).2.2 = (rdAll s (nvOf (bt s) N) N noS r0).2.2 := by
      unfold rdFin
      simp only
      rw [if_neg (by rw [q1]; omega)]
    rw [hF]
    refine ⟨fun _ => ⟨by rw [q1, hE], by rw [q2, hP]⟩, fun h0 => ?_⟩
    rw [hE] at h0
    cases h0

theorem cntV_vb {c : Nat → Int} {N : Nat} : ∀ f k j, k ≤ j → j < cntV c N f k → vb N (c j) = true := by
  intro f
  induction f with
  | zero => intro k j h1 h2; simp [cntV] at h2; omega
  | succ f ih =>
    intro k j h1 h2
    simp only [cntV] at h2
    split at h2
    · rename_i hv
      by_cases e : k = j
      · rw [← e]; exact hv
      · exact ih (k + 1) j (by omega) h2
    · omega

/-- The flow of a text that is read. -/
def mkD (o s : ByteArray) (n b : Nat) (v : Value) : FD := ⟨b, n, prNv s n, (rdFin s n).1, cl o n, s, (rdFin s n).2.1, (rdFin s n).2.2.T, v⟩
theorem mkD_env {o s : ByteArray} {n b : Nat} {v : Value} (hs : s.size ≤ 300) (hE : prE s n = 0) : dE (mkD o s n b v) = pE (cl o n) s n := by
  obtain ⟨h1, j, h2⟩ := (rdFin_ok hs).2 hE
  have hm : ((mkD o s n b v).S 0).toNat = prNv s n + 1 := by show ((rdFin s n).2.1 0).toNat = _; rw [h2.m0]; rfl
  have hP : (fun k => (mkD o s n b v).S (k + 1)) = fun k => (((prPs s n).getD k 0 : Nat) : Int) := by
    funext k
    show (rdFin s n).2.1 (k + 1) = _
    by_cases hk : k < (prPs s n).length
    · exact h2.st k hk
    · rw [h2.sz k (by omega)]
      simp [List.getD, List.getElem?_eq_none (show (prPs s n).length ≤ k by omega)]
  unfold dE
  rw [hm, hP]
  show ({ pE (cl o n) s n with nv := prNv s n, np := (rdFin s n).1, main := prNv s n + 1, P := fun k => (((prPs s n).getD k 0 : Nat) : Int) } : Env) = _
  rw [h1]
  rfl
theorem mkD_ok {o s : ByteArray} {n b : Nat} {v : Value} (hR : ReadPost o 0 0 n) (hE : prE s n = 0) : GOk (mkD o s n b v) (s.size + 1) ∧ InOrd (pE (cl o n) s n) (s.size + 1) := by
  have K := known hR hE
  obtain ⟨h1, j, h2⟩ := (rdFin_ok K.sz).2 hE
  have hEnv := mkD_env (o := o) (b := b) (v := v) K.sz hE
  have hnp : (mkD o s n b v).np = (prPs s n).length := h1
  have wm : ∀ m j, wfS (bt s) (prNv s n) n (prPs s n).length (s.size + 1) m = (j, false) → wfS (bt s) (prNv s n) n 4 (s.size + 1) m = (j, false) := fun m j h => (wfS_four (T := noP) K.np _ _ _ h).1
  refine ⟨⟨⟨K.A, K.n8, K.sz, K.nv, by rw [hnp]; exact K.np, nvOf_size s n⟩, ⟨fun k hk h63 => ?_, fun k hk h63 => ?_⟩, by rw [hEnv]; exact K.Q, ?_, ?_, fun k hk => ?_⟩, fun k hk j => ⟨fun h0 hj => ?_, fun h0 hj => ?_⟩⟩
  · have hv := cntV_vb (c := bt s) (N := n) 8 0 k (Nat.zero_le _) hk
    have hd : isDB (bt s k) n = true := by
      have h9 : (bt s k == 63 || isDB (bt s k) n) = true := hv
      rcases Bool.or_eq_true_iff.1 h9 with h | h
      · have h7 : bt s k = 63 := by simpa using h
        exact absurd h7 h63
      · exact h
    obtain ⟨d, ed, hdn⟩ := isDB_nat hd
    refine ⟨d, ed, ?_, hdn⟩
    show dgt (bt s k) n = (d : Int)
    rw [dgt_yes ((isDB_iff _ _).1 hd)]; exact ed
  · show dgt (bt s k) n < 0
    rw [show bt s k = 63 from h63]
    unfold dgt
    rw [isDB_no (by omega)]
    simp
  · show (rdFin s n).2.1 0 = (((dE (mkD o s n b v)).main : Nat) : Int)
    rw [hEnv, h2.m0]; rfl
  · rw [hEnv, hnp]
    obtain ⟨j1, w1, _, t1⟩ := h2.tm
    obtain ⟨j2, hj2⟩ := K.Q.main
    exact (wfS_four K.np _ _ _ hj2).2 t1
  · rw [hnp] at hk ⊢
    have e : ((mkD o s n b v).S (k + 1)).toNat = (prPs s n).getD k 0 := by show ((rdFin s n).2.1 (k + 1)).toNat = _; rw [h2.st k hk]; rfl
    rw [e]
    obtain ⟨j1, w1, _, t1⟩ := h2.tb k hk
    obtain ⟨m, j2, em, hj2⟩ := K.Q.proc k hk
    have em2 : (prPs s n).getD k 0 = m := by
      have h9 : (((prPs s n).getD k 0 : Nat) : Int) = (m : Int) := em
      omega
    rw [em2] at t1 ⊢
    exact (wfS_four K.np _ _ _ hj2).2 t1
  · have h9 := wm (prNv s n + 1) j hj
    have hk' : k < (prPs s n).length := hk
    exact h2.o0 j (by omega) h9
  · have hk' : k < (prPs s n).length := hk
    have h8 : wfS (bt s) (prNv s n) n (prPs s n).length (s.size + 1) ((prPs s n).getD (k - 1) 0) = (j, false) := hj
    have h9 := h2.o1 (k - 1) j (by omega) (wm _ j h8)
    rw [show k - 1 + 1 = k by omega] at h9
    exact h9

end Go.Proofs.Ytfcflnnleadpkaa

namespace Go.Proofs.Ytfcflnnleadpkaa
open Go.RowKit

/-- What 'readProgram' answers. -/
def RpAns (s : ByteArray) (N : Nat) (e : Ending) : Prop := ∃ F : Nat → Value, e = .returned (.agg (rowF F 912)) ∧ (∀ k, (F k).oneCell' = true) ∧
  ((prE s N ≠ 0 ∧ F 0 = .int .i64 (prE s N) ∧ F 1 = .int .i64 (prP s N)) ∨ (prE s N = 0 ∧ ∃ a n c, F = prgF 0 0 s N (prNv s N) (rdFin s N).1 (rdFin s N).2.1 (rdFin s N).2.2.T (.slice a n c)))
theorem rp_any (w : World) (s : ByteArray) (N : Nat) : Calls Try.prog 56 #[.string s, .int .i64 (N : Int)] w fun e w' => RpAns s N e ∧ Below w.heap.size w w' := by
  by_cases hs : s.size ≤ 300
  · refine (rp_ok w s N hs).mono ?_
    rintro e w' ⟨⟨a, n, c, rfl⟩, hb⟩
    refine ⟨⟨_, rfl, prgF_one rfl, ?_⟩, hb⟩
    obtain ⟨h1, h2⟩ := rdFin_ok (N := N) hs
    by_cases hE : prE s N = 0
    · right
      obtain ⟨_, j, h3⟩ := h2 hE
      exact ⟨hE, a, n, c, by rw [h3.e, h3.p]; rfl⟩
    · left
      obtain ⟨q1, q2⟩ := h1 hE
      exact ⟨hE, by rw [← q1]; rfl, by rw [← q2]; rfl⟩
  · refine (rp_long w s N (by omega)).mono ?_
    rintro e w' ⟨rfl, hb⟩
    have hE : prE s N = 1 := by unfold prE; rw [if_pos (by omega)]
    have hP : prP s N = 0 := by unfold prP; rw [if_pos (by omega)]
    exact ⟨⟨_, rfl, prgF_one rfl, Or.inl ⟨by rw [hE]; omega, by rw [hE]; rfl, by rw [hP]; rfl⟩⟩, hb⟩

theorem flw_laid {e p : Int} {L P F : Nat → Value} {V X T : Nat → Nat} {ra : Bool} :
    ((flwC e p L P V X T ra).toList.take (134 + 0) ++ (rowF F 912).toList ++ (flwC e p L P V X T ra).toList.drop (134 + 0 + (rowF F 912).toList.length)).toArray = flwC e p L F V X T ra := by
  have hl : (rowF F 912).toList.length = 912 := by simp [rowF]
  have hl2 : (flwC e p L P V X T ra).toList.length = 1063 := by simp [flwC, rowF]
  rw [hl]
  apply Array.ext_getElem?
  intro k
  rw [List.getElem?_toArray]
  have g1 : ∀ j, (flwC e p L P V X T ra).toList[j]? = if j < 1063 then some (flwF e p L P V X T ra j) else none := by
    intro j
    rw [Array.getElem?_toList]
    by_cases h : j < 1063
    · rw [if_pos h]; exact rowF_get _ _ _ h
    · rw [if_neg h, Array.getElem?_eq_none]; rw [flwC_size]; omega
  have g2 : (rowF F 912).toList[k - 134]? = if k - 134 < 912 then some (F (k - 134)) else none := by
    rw [Array.getElem?_toList]
    by_cases h : k - 134 < 912
    · rw [if_pos h]; exact rowF_get _ _ _ h
    · rw [if_neg h, Array.getElem?_eq_none]; rw [rowF_size]; omega
  have g3 : (flwC e p L F V X T ra)[k]? = if k < 1063 then some (flwF e p L F V X T ra k) else none := by
    by_cases h : k < 1063
    · rw [if_pos h]; exact rowF_get _ _ _ h
    · rw [if_neg h, Array.getElem?_eq_none]; rw [flwC_size]; omega
  rw [g3, List.append_assoc]
  have ht : ((flwC e p L P V X T ra).toList.take (134 + 0)).length = 134 := by rw [List.length_take, hl2]; rfl
  by_cases h1 : k < 134
  · rw [List.getElem?_append_left (by rw [ht]; exact h1), List.getElem?_take, if_pos (by omega), g1, if_pos (by omega), if_pos (by omega)]
    refine congrArg some ?_
    unfold flwF
    repeat' split
    all_goals first | rfl | omega
  · rw [List.getElem?_append_right (by rw [ht]; omega), ht]
    by_cases h2 : k < 1046
    · rw [List.getElem?_append_left (by rw [hl]; omega), g2, if_pos (by omega), if_pos (by omega)]
      refine congrArg some ?_
      unfold flwF
      have a0 : ¬ k = 0 := by omega
      have a1 : ¬ k = 1 := by omega
      simp only [a0, a1, h1, h2, if_false, if_true]
    · rw [List.getElem?_append_right (by rw [hl]; omega), hl, List.getElem?_drop, g1, show 134 + 0 + 912 + (k - 134 - 912) = k by omega]
      by_cases h3 : k < 1063
      · rw [if_pos h3, if_pos h3]
        refine congrArg some ?_
        unfold flwF
        have a0 : ¬ k = 0 := by omega
        have a1 : ¬ k = 1 := by omega
        simp only [a0, a1, h1, h2, if_false]
      · rw [if_neg h3, if_neg h3]
theorem store_prog (w : World) (g : Nat) {e p : Int} {L P F : Nat → Value} {V X T : Nat → Nat} {ra : Bool} (hF : ∀ k, (F k).oneCell' = true) (hg : w.heap[g]? = some (.cells (flwC e p L P V X T ra) 92 (0, 0))) :
    Sem.run Try.prog (storeCells ⟨g, 134, none⟩ (rowF F 912).toList) w = .ok () (w.setRow g (flwC e p L F V X T ra)) := by
  have h := run_storeCells_at Try.prog g 134 92 (rowF F 912).toList 0 _ w hg (by rw [flwC_size]; simp [rowF]) (fun v hv => by
    simp [rowF] at hv
    obtain ⟨k, _, rfl⟩ := hv
    exact hF k)
  rw [flw_laid] at h
  exact h

theorem flw_put {w : World} {g : Nat} {e p e' p' : Int} {L P : Nat → Value} {V X T : Nat → Nat} {ra : Bool} (hg : w.heap[g]? = some (.cells (flwC e p L P V X T ra) 92 (0, 0))) :
    ((w.setCell ⟨g, 0, none⟩ (.int .i64 e')).setCell ⟨g, 1, none⟩ (.int .i64 p')).heap[g]? = some (.cells (flwC e' p' L P V X T ra) 92 (0, 0)) := by
  rw [setCell_eq_setRow w g _ _ _ _ _ hg, flw_set0, setCell_eq_setRow _ g _ _ _ _ _ (setRow_heap w g _ _ _ _ hg), flw_set1, setRow_setRow]
  exact setRow_heap w g _ _ _ _ hg
theorem set2_other {w : World} {g k : Nat} {x y : Value} (h : k ≠ g) : ((w.setCell ⟨g, 0, none⟩ x).setCell ⟨g, 1, none⟩ y).heap[k]? = w.heap[k]? :=
  (Below.heap_setCell _ _ _ k h).trans (Below.heap_setCell w _ _ k h)

/-- What 'readFlow' answers where the order is one. -/
def RfOk (o s : ByteArray) (n : Nat) (C : Array Value) : Prop := ∃ a p : Int, CkPost o s a p n ∧ C.size = 1063 ∧ C.all (·.oneCell') = true ∧ C[0]? = some (.int .i64 a) ∧ C[1]? = some (.int .i64 p) ∧
  (a = 0 → p = 0 ∧ prE s n = 0 ∧ ∃ v st, C = flC (mkD o s n 0 v) st ∧ (∀ k, k < prNv s n → st.V k = (ckL o s n).V k) ∧ (∀ k, k < (prPs s n).length → st.X k = (ckL o s n).X k) ∧ ∀ k, k < (prPs s n).length → st.T k = (ckL o s n).T k)

set_option maxHeartbeats 4000000 in
set_option maxRecDepth 200000 in
theorem rf_good (w : World) (o s : ByteArray) (n : Nat) (hR : ReadPost o 0 0 n) :
    Calls Try.prog 39 #[.string o, .string s] w fun e w' => (∃ C, e = .returned (.agg C) ∧ RfOk o s n C) ∧ Below w.heap.size w w' := by
  have hz := zero_flw
  have z0 := flwC_size 0 0 L0 P0 noW noW noW false
  have HRP := hide hR
  clear hR
  go_enter Try.func39, Try.ntmps39
  go_wp2_with fail
  refine (readLevels_any _ _).mono ?_
  rintro e w1 ⟨⟨a, p, n', hr, hn, rfl⟩, hb⟩
  obtain ⟨rfl, rfl, rfl⟩ := ReadPost_uniq (unhide HRP) hr
  have hl := levF_c o n (ReadPost_p0 hr)
  have z1 := levA_size o 0 0 n
  have z2 := flwC_size 0 0 (levF o 0 0 n) P0 noW noW noW false
  have hfo := flw_lay o 0 0 n
  have c2 := flw_ge (e := 0) (p := 0) (L := levF o 0 0 n) (P := P0) (V := noW) (X := noW) (T := noW) (ra := false) 2 (.int .i64 0) hl.1
  have c3 := flw_ge (e := 0) (p := 0) (L := levF o 0 0 n) (P := P0) (V := noW) (X := noW) (T := noW) (ra := false) 3 (.int .i64 0) hl.2.1
  have c4 := flw_ge (e := 0) (p := 0) (L := levF o 0 0 n) (P := P0) (V := noW) (X := noW) (T := noW) (ra := false) 4 (.int .i64 (n : Int)) hl.2.2
  have s0 := flw_set0 (e := 0) (p := 0) (e' := 0) (L := levF o 0 0 n) (P := P0) (V := noW) (X := noW) (T := noW) (ra := false)
  have s1 := flw_set1 (e := 0) (p := 0) (p' := 0) (L := levF o 0 0 n) (P := P0) (V := noW) (X := noW) (T := noW) (ra := false)
  have c0 := flw_ge (e := 0) (p := 0) (L := levF o 0 0 n) (P := P0) (V := noW) (X := noW) (T := noW) (ra := false) 0 (.int .i64 0) rfl
  have hst := store_arr size_flw (w1.alloc (.cells (flwC 0 0 L0 P0 noW noW noW false) 92)) w1.heap.size _ (flwC 0 0 (levF o 0 0 n) P0 noW noW noW false) (flwC_size _ _ _ _ _ _ _ _) (flwC_size _ _ _ _ _ _ _ _) (flwC_all (levF_one _ _ _ _) (prgF_one rfl)) (heap_alloc_last w1 _)
  rw [World.setRow_alloc_new] at hst
  have hsz : w.heap.size < w1.heap.size := by have := hb.size; simp at this; omega
  have HG0 := hide (show (w1.alloc (.cells (flwC 0 0 (levF o 0 0 n) P0 noW noW noW false) 92)).heap[w.heap.size]? = some (.cells (flwC 0 0 L0 P0 noW noW noW false) 92) from
    (heap_alloc_old _ _ hsz).trans ((hb.block _ (by simp)).trans (heap_alloc_last w _)))
  have HG1 := hide (heap_alloc_last w1 (.cells (flwC 0 0 (levF o 0 0 n) P0 noW noW noW false) 92))
  have HB := hide (show Below w.heap.size w (w1.alloc (.cells (flwC 0 0 (levF o 0 0 n) P0 noW noW noW false) 92)) from (((Below.refl _ _).alloc (Nat.le_refl _) _).trans (hb.mono (by simp))).trans ((Below.refl _ _).alloc (by omega) _))
  clear hr hl hb
  go_wp2_with fail
  refine (rp_any _ _ _).mono ?_
  rintro e w2 ⟨⟨F, rfl, hF1, hans⟩, hb2⟩
  have HANS := hide hans
  clear hans
  have g2 := (hb2.block w1.heap.size (by simp)).trans (unhide HG1)
  have g20 := (hb2.block w.heap.size (by simp; omega)).trans (unhide HG0)
  have HB2 := hide ((unhide HB).trans (hb2.mono (by simp; omega)))
  have hst3 := store_prog w2 w1.heap.size (F := F) hF1 g2
  have z9 : (rowF F 912).size = 912 := rowF_size _ _
  have HW3 := hide (setRow_heap w2 w1.heap.size _ (flwC 0 0 (levF o 0 0 n) F noW noW noW false) _ _ g2)
  have HW30 := hide ((setRow_other w2 w1.heap.size w.heap.size (flwC 0 0 (levF o 0 0 n) F noW noW noW false) (by omega)).trans g20)
  have HB3 := hide (below_setRow (unhide HB2) (show w.heap.size ≤ w1.heap.size by omega) (flwC 0 0 (levF o 0 0 n) F noW noW noW false))
  clear hb2 g2 g20
  have q134 : (w2.setRow w1.heap.size (flwC 0 0 (levF o 0 0 n) F noW noW noW false)).cell? ⟨w1.heap.size, 134, none⟩ = some (F 0) := (rowF_cell (unhide HW3) (by omega)).trans rfl
  have q135 : (w2.setRow w1.heap.size (flwC 0 0 (levF o 0 0 n) F noW noW noW false)).cell? ⟨w1.heap.size, 135, none⟩ = some (F 1) := (rowF_cell (unhide HW3) (by omega)).trans rfl
  have q0 : (w2.setRow w1.heap.size (flwC 0 0 (levF o 0 0 n) F noW noW noW false)).cell? ⟨w1.heap.size, 0, none⟩ = some (.int .i64 0) := (rowF_cell (unhide HW3) (by omega)).trans rfl
  have q1 : (w2.setRow w1.heap.size (flwC 0 0 (levF o 0 0 n) F noW noW noW false)).cell? ⟨w1.heap.size, 1, none⟩ = some (.int .i64 0) := (rowF_cell (unhide HW3) (by omega)).trans rfl
  have y0 := frozen_of_row (w2.setRow w1.heap.size (flwC 0 0 (levF o 0 0 n) F noW noW noW false)) w1.heap.size 0 _ _ (unhide HW3)
  have y1 := frozen_of_row (w2.setRow w1.heap.size (flwC 0 0 (levF o 0 0 n) F noW noW noW false)) w1.heap.size 1 _ _ (unhide HW3)
  have HRP2 := unhide HRP
  rcases unhide HANS with ⟨hE, hF0, hFp⟩ | ⟨hE, va, vn, vc, rfl⟩
  · rw [hF0] at q134
    rw [hFp] at q135
    have he' : (prE s n == 0) = false := by simpa using hE
    have HW4 := hide (flw_put (e' := prE s n) (p' := prP s n) (unhide HW3))
    have hw40 := (set2_other (x := .int .i64 (prE s n)) (y := .int .i64 (prP s n)) (show w.heap.size ≠ w1.heap.size by omega)).trans (unhide HW30)
    have hst4 := store_arr size_flw _ w.heap.size _ (flwC (prE s n) (prP s n) (levF o 0 0 n) F noW noW noW false) (flwC_size _ _ _ _ _ _ _ _) (flwC_size _ _ _ _ _ _ _ _) (flwC_all (levF_one _ _ _ _) hF1) hw40
    have z4 := flwC_size (prE s n) (prP s n) (levF o 0 0 n) F noW noW noW false
    have HW40 := hide hw40
    have HB4 := hide (((unhide HB3).setCell (p := ⟨w1.heap.size, 0, none⟩) (show w.heap.size ≤ w1.heap.size by omega) (.int .i64 (prE s n))).setCell (p := ⟨w1.heap.size, 1, none⟩) (show w.heap.size ≤ w1.heap.size by omega) (.int .i64 (prP s n)))
    have HRF := hide (show RfOk o s n (flwC (prE s n) (prP s n) (levF o 0 0 n) F noW noW noW false) from ⟨prE s n, prP s n, Or.inr (Or.inl ⟨unhide HRP, hE, rfl, rfl⟩), flwC_size _ _ _ _ _ _ _ _, flwC_all (levF_one _ _ _ _) hF1, flwC_g 0 (by omega), flwC_g 1 (by omega), fun h => absurd h hE⟩)
    clear hw40 hF0 hFp hE
    go_wp2_with (refine wpList_load_row rfl 92 _ rfl w1.heap.size rfl 92 _ (0, 0) _ (unhide HW4) Try.underlying92 rfl (by rw [flwC_size]; exact size_flw) ?_)
    refine bodyPost_ret (v := .agg (flwC (prE s n) (prP s n) (levF o 0 0 n) F noW noW noW false)) (ret_flw Try.results39 _ _ w.heap.size _ (flwC_size _ _ _ _ _ _ _ _) rfl (setRow_heap _ _ _ _ _ _ (unhide HW40))) rfl ⟨⟨_, rfl, unhide HRF⟩, ?_⟩
    exact below_setRow (unhide HB4) (Nat.le_refl _) _
  · have K := known HRP2 hE
    obtain ⟨G, I⟩ := mkD_ok (b := w1.heap.size) (v := .slice va vn vc) HRP2 hE
    have hEnv := mkD_env (o := o) (b := w1.heap.size) (v := .slice va vn vc) K.sz hE
    have q134' : (w2.setRow w1.heap.size (flwC 0 0 (levF o 0 0 n) (prgF 0 0 s n (prNv s n) (rdFin s n).1 (rdFin s n).2.1 (rdFin s n).2.2.T (.slice va vn vc)) noW noW noW false)).cell? ⟨w1.heap.size, 134, none⟩ = some (.int .i64 0) := q134
    have q135' : (w2.setRow w1.heap.size (flwC 0 0 (levF o 0 0 n) (prgF 0 0 s n (prNv s n) (rdFin s n).1 (rdFin s n).2.1 (rdFin s n).2.2.T (.slice va vn vc)) noW noW noW false)).cell? ⟨w1.heap.size, 135, none⟩ = some (.int .i64 0) := q135
    clear q134 q135
    have HG := hide G
    have HI := hide I
    have HK := hide K
    have HEnv := hide hEnv
    have HE := hide hE
    clear G I K hEnv hE
    generalize hFF : prgF 0 0 s n (prNv s n) (rdFin s n).1 (rdFin s n).2.1 (rdFin s n).2.2.T (.slice va vn vc) = F at *
    have HFF := hide hFF
    clear hFF
    have HW4 := hide (flw_put (e' := 0) (p' := 0) (unhide HW3))
    have HW40 := hide ((set2_other (x := .int .i64 0) (y := .int .i64 0) (show w.heap.size ≠ w1.heap.size by omega)).trans (unhide HW30))
    have HB4 := hide (((unhide HB3).setCell (p := ⟨w1.heap.size, 0, none⟩) (show w.heap.size ≤ w1.heap.size by omega) (.int .i64 0)).setCell (p := ⟨w1.heap.size, 1, none⟩) (show w.heap.size ≤ w1.heap.size by omega) (.int .i64 0))
    have HFL := hide (show Fl (mkD o s n w1.heap.size (.slice va vn vc)) (((w2.setRow w1.heap.size (flwC 0 0 (levF o 0 0 n) F noW noW noW false)).setCell ⟨w1.heap.size, 0, none⟩ (.int .i64 0)).setCell ⟨w1.heap.size, 1, none⟩ (.int .i64 0)) ⟨noW, noW, noW, false, -1⟩ from by
      have h9 := unhide HW4
      have e1 : levF o 0 0 n = latF 0 0 n (cl o n) (jTo n (cl o n) n 0) (fbK (cl o n) (n - 1) : Nat) := by unfold levF; rw [if_pos rfl]
      have e2 : flwC 0 0 (levF o 0 0 n) F noW noW noW false = flC (mkD o s n w1.heap.size (.slice va vn vc)) ⟨noW, noW, noW, false, -1⟩ := by rw [e1, ← unhide HFF]; rfl
      unfold Fl
      rw [← e2]
      exact h9)
    go_wp2_with fail
    refine (fFind (unhide HG) (unhide HFL)).mono ?_
    rintro e w5 ⟨rfl, ⟨st', hf5, hl5, hra⟩, hk5⟩
    have HF5 := hide hf5
    have hsz5 : w1.heap.size < (((w2.setRow w1.heap.size (flwC 0 0 (levF o 0 0 n) F noW noW noW false)).setCell ⟨w1.heap.size, 0, none⟩ (.int .i64 0)).setCell ⟨w1.heap.size, 1, none⟩ (.int .i64 0)).heap.size := (Array.getElem?_eq_some_iff.1 (unhide HW4)).1
    have g50 := (hk5.block w.heap.size (by omega) (show w.heap.size ≠ w1.heap.size by omega)).trans (unhide HW40)
    have HB5 := hide (show Below w.heap.size w w5 from (unhide HB4).trans ⟨hk5.os, hk5.tape, hk5.output, hk5.size, fun k hk => hk5.block k (by omega) (show k ≠ w1.heap.size by omega)⟩)
    have hall : (flC (mkD o s n w1.heap.size (.slice va vn vc)) st').all (·.oneCell') = true := rowF_all (flwF_one (latF_one _ _ _ _ _ _) (prgF_one rfl))
    have hst5 := store_arr size_flw w5 w.heap.size _ (flC (mkD o s n w1.heap.size (.slice va vn vc)) st') (flwC_size _ _ _ _ _ _ _ _) (flC_size _ _) hall g50
    have z5 := flC_size (mkD o s n w1.heap.size (.slice va vn vc)) st'
    have HG50 := hide g50
    have HRF := hide (show RfOk o s n (flC (mkD o s n w1.heap.size (.slice va vn vc)) st') from by
      have K := unhide HK
      have L : LInv (pE (cl o n) s n) (s.size + 1) st' := by rw [← unhide HEnv]; exact hl5
      obtain ⟨u1, u2, u3, u4⟩ := LInv.same (E := pE (cl o n) s n) K.A K.Q (unhide HI) L hra K.low
      have u5 : st'.bad = ckB o s n := u4
      refine ⟨eB st'.bad, pB st'.bad, ?_, flC_size _ _, hall, rowF_get _ _ _ (by omega), rowF_get _ _ _ (by omega), fun h0 => ⟨?_, unhide HE, _, st', rfl, u1, u2, u3⟩⟩
      · by_cases hb : st'.bad < 0
        · have e1 : eB st'.bad = 0 := by unfold eB; rw [if_pos hb]
          have e2 : pB st'.bad = 0 := by unfold pB; rw [if_pos hb]
          rw [e1, e2]
          exact Or.inr (Or.inr (Or.inr ⟨unhide HRP, unhide HE, by rw [← u5]; exact hb, rfl, rfl⟩))
        · have e1 : eB st'.bad = 6 := by unfold eB; rw [if_neg hb]
          have e2 : pB st'.bad = st'.bad := by unfold pB; rw [if_neg hb]
          rw [e1, e2]
          exact Or.inr (Or.inr (Or.inl ⟨unhide HRP, unhide HE, by rw [← u5]; omega, rfl, u5⟩))
      · unfold eB at h0
        unfold pB
        split at h0
        · rename_i hb; rw [if_pos hb]
        · omega)
    clear hf5 hl5 hra hk5 g50 hall hsz5
    go_wp2_with (refine wpList_load_row rfl 92 _ rfl w1.heap.size rfl 92 _ (0, 0) _ (unhide HF5) Try.underlying92 rfl (by rw [flC_size]; exact size_flw) ?_)
    refine bodyPost_ret (v := .agg (flC (mkD o s n w1.heap.size (.slice va vn vc)) st')) (ret_flw Try.results39 _ _ w.heap.size _ (flC_size _ _) rfl (setRow_heap _ _ _ _ _ _ (unhide HG50))) rfl ⟨⟨_, rfl, unhide HRF⟩, ?_⟩
    exact below_setRow (unhide HB5) (Nat.le_refl _) _

end Go.Proofs.Ytfcflnnleadpkaa

namespace Go.Proofs.Ytfcflnnleadpkaa
open Go.RowKit

/-- What 'readFlow' answers. -/
def RfAns (o s : ByteArray) (e : Ending) : Prop := ∃ C, e = .returned (.agg C) ∧ ∃ (a p : Int) (n : Nat), CkPost o s a p n ∧ C.size = 1063 ∧ C.all (·.oneCell') = true ∧ C[0]? = some (.int .i64 a) ∧ C[1]? = some (.int .i64 p) ∧
  (a = 0 → p = 0 ∧ ReadPost o 0 0 n ∧ prE s n = 0 ∧ ∃ v st, C = flC (mkD o s n 0 v) st ∧ (∀ k, k < prNv s n → st.V k = (ckL o s n).V k) ∧ (∀ k, k < (prPs s n).length → st.X k = (ckL o s n).X k) ∧ ∀ k, k < (prPs s n).length → st.T k = (ckL o s n).T k)
theorem CkPost_rd {o s : ByteArray} {a p : Int} {n : Nat} (h : CkPost o s a p n) (ha : a = 0) : ReadPost o 0 0 n := by
  rcases h with ⟨_, h2⟩ | ⟨h1, _⟩ | ⟨h1, _⟩ | ⟨h1, _⟩
  · exact absurd ha h2
  · exact h1
  · exact h1
  · exact h1
theorem rf_any (w : World) (o s : ByteArray) : Calls Try.prog 39 #[.string o, .string s] w fun e w' => RfAns o s e ∧ Below w.heap.size w w' := by
  by_cases h : ∃ n, ReadPost o 0 0 n
  · obtain ⟨n, hn⟩ := h
    refine (rf_good w o s n hn).mono ?_
    rintro e w' ⟨⟨C, rfl, a, p, h1, h2, h3, h4, h5, h6⟩, hb⟩
    refine ⟨⟨C, rfl, a, p, n, h1, h2, h3, h4, h5, fun ha => ?_⟩, hb⟩
    obtain ⟨q1, q2, q3⟩ := h6 ha
    exact ⟨q1, hn, q2, q3⟩
  · refine (rf_order w o s (fun a p n hr ha => h ⟨n, ?_⟩)).mono ?_
    · have hp := ReadPost_p0 hr ha
      rw [ha, hp] at hr
      exact hr
    · rintro e w' ⟨⟨a, p, n, hr, rfl⟩, hb⟩
      have ha : a ≠ 0 := fun ha => h ⟨n, by
        have hp := ReadPost_p0 hr ha
        rw [ha, hp] at hr
        exact hr⟩
      exact ⟨⟨_, rfl, a, p, n, Or.inl ⟨hr, ha⟩, flwC_size _ _ _ _ _ _ _ _, flwC_all (levF_one _ _ _ _) (prgF_one rfl), flwC_g 0 (by omega), flwC_g 1 (by omega), fun h0 => absurd h0 ha⟩, hb⟩
theorem get_of? {C : Array Value} {k : Nat} {x : Value} (h : C[k]? = some x) (hk : k < C.size) : C[k] = x := by
  rw [Array.getElem?_eq_getElem hk] at h
  exact Option.some.inj h

set_option maxHeartbeats 2000000 in
set_option maxRecDepth 200000 in
theorem hushCheck_ok : HushCheck := by
  intro w o s
  have hz := zero_flw
  have z0 := flwC_size 0 0 L0 P0 noW noW noW false
  go_enter Try.func19, Try.ntmps19
  go_wp2_with fail
  refine (rf_any _ _ _).mono ?_
  rintro e w1 ⟨⟨C, rfl, a, p, n, hck, hsz, hall, h0, h1, _⟩, hb⟩
  have HCK := hide hck
  have hst := store_arr size_flw (w1.alloc (.cells (flwC 0 0 L0 P0 noW noW noW false) 92)) w1.heap.size _ C (flwC_size _ _ _ _ _ _ _ _) hsz hall (heap_alloc_last w1 _)
  rw [World.setRow_alloc_new] at hst
  have c0 := get_of? h0
  have c1 := get_of? h1
  clear hck hall
  go_wp2_with fail
  go_quiet (fail)
  go_wp2_with fail
  go_ret2
  exact ⟨⟨a, p, n, unhide HCK, rfl⟩, below_drewN' (hb.trans ((Below.refl _ _).alloc hb.size _)) _⟩


end Go.Proofs.Ytfcflnnleadpkaa
