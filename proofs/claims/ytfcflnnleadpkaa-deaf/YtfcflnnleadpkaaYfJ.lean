import Derived.Test.YtfcflnnleadpkaaTnJ
import Derived.Deep.LoopGhost
import Derived.Deep.RegionWith
import Derived.Deep.QuietTactic
import Derived.BigQuiet
import Derived.Laws.OwnMore
import Derived.Test.YtfcflnnleadpkaaMaJ
import Derived.Laws.Tables
import Derived.Laws.Rows
import Derived.Laws.CopyRow
import Derived.Deep.WholeRow
import Derived.Laws.CopyOwn
import Derived.RegionTactic
import Derived.ChangeAlike
import Derived.BigRegion
namespace Go.Proofs.Ytfcflnnleadpkaa
open Go.RowKit
variable {E : Env} {w w' w0 w1 wa : World} {st : WS}

/-- append, of a slice wherever it lies, nil or not. -/
theorem wpList_append_sli {P : Program} {ops : Array Oper} {rest : List Oper} {o : Oper} {a : Act} {Q : Exit → Act → World → Prop} (hgd : o.guard = none) (s x : Operand) (t : TypeId)
    (ho : o.op = .call { callee := .builtin .append, args := #[s, x], argTypes := #[t, t] })
    (base : Nat) (e : TypeId) (i : TypeInfo) (z : Value) (size bytes : Nat) (ht : P.underlying t = some (.slice e)) (hi : P.info? e = some i) (hz : i.zero = some z)
    (hsize : i.size = size) (hby : i.bytes = bytes) (hzs : z.cells.size = size) (hsz : 0 < size)
    (v : Value) (n : Nat) (xs : List Value) (hs : a.eval s = v) (hown : w.ownsRow base e size v n xs)
    (ad : Option Addr) (m c : Nat) (news : List Value) (hx : a.eval x = .slice ad m c) (h0 : ad = none → m = 0 ∧ c = 0) (hl : news.length = m * size) (hnews : ∀ j u, news[j]? = some u → ∃ b, ad = some b ∧ w.cell? (b.add j) = some u) (h1 : ∀ u ∈ news, u.oneCell' = true)
    (h63 : n + m ≤ maxLen) (hbytes : (n + m) * bytes ≤ 140737488355328) (hbase : base ≤ w.heap.size)
    (h : ∀ v' w', w'.ownsRow base e size v' (n + m) (xs ++ news) → w.grownBy w' v.ownBlock → (v'.ownBlock = v.ownBlock ∨ v'.ownBlock = some w.heap.size) → wpList P ops Q rest (a.put o.dst v') w') :
    wpList P ops Q (o :: rest) a w := by
  cases ad with
  | some b => exact wpList_append_own_at w hgd s x t ho base e i z size bytes ht hi hz hsize hby hzs hsz v n xs hs hown b m c news hx hl (fun j u hu => by obtain ⟨b', e', h'⟩ := hnews j u hu; injection e' with e'; rw [e']; exact h') h1 h63 hbytes hbase (fun v' w' p1 p2 _ p4 => h v' w' p1 p2 p4)
  | none =>
    obtain ⟨rfl, rfl⟩ := h0 rfl
    have hn : news = [] := List.eq_nil_of_length_eq_zero (by rw [hl]; simp)
    subst hn
    refine wpList_plain hgd fun K hK => ?_
    have hr := run_append_owned_none (P := P) w base t o.type e i size ht hi v n xs hown
    unfold Oper.wp execOp
    simp only [ho, resolve, invoke, builtin, Sem.run_bind, Sem.run_pure, Result.andThen_ok, List.map_toArray, List.map_cons, List.map_nil, hs, hx, hr]
    refine hK _ _ (h v w ?_ ?_ (Or.inl rfl))
    · simpa using hown
    · exact ⟨rfl, rfl, rfl, Nat.le_refl _, fun _ _ _ => rfl⟩

end Go.Proofs.Ytfcflnnleadpkaa

namespace Go.Proofs.Ytfcflnnleadpkaa
open Go.RowKit
variable {E : Env} {w w' w0 w1 wa : World} {st : WS}

/-- The labelling as a list. -/
def flF (st : WS) (nv k : Nat) : Nat := if k < nv then st.V k else if (k - nv) % 2 = 0 then st.X ((k - nv) / 2) else st.T ((k - nv) / 2)
def flL (st : WS) (nv m : Nat) : List Nat := (List.range m).map (flF st nv)
theorem flL_len (st : WS) (nv m : Nat) : (flL st nv m).length = m := by simp [flL]
theorem flL_two (st : WS) (nv k : Nat) : flL st nv (nv + 2 * k) ++ [st.X k, st.T k] = flL st nv (nv + 2 * (k + 1)) := by
  have e : nv + 2 * (k + 1) = nv + 2 * k + 1 + 1 := by omega
  unfold flL
  rw [e, List.range_succ, List.map_append, List.range_succ, List.map_append, List.append_assoc]
  have e1 : flF st nv (nv + 2 * k) = st.X k := by
    unfold flF
    rw [if_neg (by omega), if_pos (by omega)]
    congr 1; omega
  have e2 : flF st nv (nv + 2 * k + 1) = st.T k := by
    unfold flF
    rw [if_neg (by omega), if_neg (by omega)]
    congr 1; omega
  simp [e1, e2]

set_option maxHeartbeats 800000 in
set_option maxRecDepth 100000 in
theorem Flat_any (hnv : E.nv ≤ 8) (hnp : E.np ≤ 4) (h : At0 E w st) :
    Calls Try.prog 22 #[.pointer (some ⟨E.lb, 0, none⟩)] w fun e w' => ∃ v, e = .returned v ∧ w'.ownsRow w.heap.size 3 1 v (E.nv + 2 * E.np) (cells (flL st E.nv (E.nv + 2 * E.np))) ∧ Below w.heap.size w w' := by
  have HA := hide h
  obtain ⟨i0, hi0, hz0, hz1, hz2⟩ := info_parts info_int
  have HI := hide (And.intro hi0 (And.intro hz0 (And.intro hz1 hz2)))
  obtain ⟨va, vc, hvs⟩ := sl_form E.nv E.gv E.cv
  obtain ⟨xa, xc, hxs⟩ := sl_form E.np E.gx E.cx
  obtain ⟨ta, tc, hts⟩ := sl_form E.np E.gt E.ct
  have l0 : w.cell? ⟨E.lb, 0, none⟩ = some (sl E.nv E.gv E.cv) := by rw [cell_of_row w _ 0 _ _ _ h.lb]; rfl
  have l1 : w.cell? ⟨E.lb, 1, none⟩ = some (sl E.np E.gx E.cx) := by rw [cell_of_row w _ 1 _ _ _ h.lb]; rfl
  have l2 : w.cell? ⟨E.lb, 2, none⟩ = some (sl E.np E.gt E.ct) := by rw [cell_of_row w _ 2 _ _ _ h.lb]; rfl
  have hsv := h.rv.sli (cap := E.cv)
  rw [hvs] at l0 hsv
  rw [hxs] at l1
  rw [hts] at l2
  have HSV := hide hsv
  have HXS := hide hxs
  have HTS := hide hts
  clear h hi0 hz0 hz1 hz2 hvs hxs hts hsv
  go_enter Try.func22, Try.ntmps22
  have HNV := hide (show ∀ j u, (cells (flL st E.nv E.nv))[j]? = some u → ∃ b, va = some b ∧ w.cell? (b.add j) = some u by
    intro j u hu
    obtain ⟨a', c', e0, _, hc⟩ := unhide HSV
    injection e0 with e1 _ _
    have hj : j < E.nv := by
      rcases Nat.lt_or_ge j E.nv with hh | hh
      · exact hh
      · rw [List.getElem?_eq_none (by simp [cells, flL]; exact hh)] at hu; cases hu
    obtain ⟨ad, e2, h2⟩ := hc j hj
    refine ⟨ad, by rw [e1]; exact e2, ?_⟩
    have e3 : (cells (flL st E.nv E.nv))[j]? = some (.int .i64 (st.V j : Int)) := by simp [cells, flL, flF, hj]
    rw [e3] at hu
    rw [h2, ← hu]; rfl)
  have HVN : Hid (va = none → E.nv = 0 ∧ vc = 0) := by
    intro hv
    obtain ⟨a', c', e0, h0, _⟩ := unhide HSV
    injection e0 with e1 _ e2
    subst e1 e2
    exact h0 hv
  go_wp2_with (at_builtin; refine wpList_append_sli rfl _ _ 46 rfl w.heap.size 3 i0 (.int .i64 0) 1 8 Try.underlying46 (unhide HI).1 (unhide HI).2.1 (unhide HI).2.2.1 (unhide HI).2.2.2 rfl (by decide) _ 0 [] rfl (World.ownsRow_nil _ _ _ _) va E.nv vc (cells (flL st E.nv E.nv)) rfl (unhide HVN) (by simp [cells, flL]) (unhide HNV) (by intro u hu; simp [cells] at hu; obtain ⟨y, _, rfl⟩ := hu; rfl) (by unfold maxLen; omega) (by omega) (Nat.le_refl _) ?_)
  intro v1 w1 hown1 hgrow hat
  have HB1 : Hid (Below w.heap.size w w1) := hide ⟨hgrow.os, hgrow.tape, hgrow.output, hgrow.size, fun k hk => hgrow.block k hk (by simp [Value.ownBlock])⟩
  have HO1 := hide (show w1.ownsRow w.heap.size 3 1 v1 (E.nv + 2 * 0) (cells (flL st E.nv (E.nv + 2 * 0))) by simpa using hown1)
  clear hown1 hgrow hat l0
  go_wp2_with fail
  go_loopg [3, 4] E.np (fun g ov d wr => ∃ (k : Nat), k + g = E.np ∧ d = .int .i64 (k : Int) ∧ Below w.heap.size w wr ∧ wr.ownsRow w.heap.size 3 1 ov (E.nv + 2 * k) (cells (flL st E.nv (E.nv + 2 * k))))
  case atStart => exact ⟨0, Nat.zero_add _, rfl, unhide HB1, unhide HO1⟩
  case round =>
    obtain ⟨k, hkg, rfl, hbr, hor⟩ := hrel
    have HBR := hide hbr
    have HOR := hide hor
    have hwl := hbr.size
    have m1 : wr.cell? ⟨E.lb, 1, none⟩ = some (.slice xa E.np xc) := by rw [World.cell?_of_block (w := w) (hbr.block E.lb (World.block_lt_of_cell? w _ l1))]; exact l1
    have m2 : wr.cell? ⟨E.lb, 2, none⟩ = some (.slice ta E.np tc) := by rw [World.cell?_of_block (w := w) (hbr.block E.lb (World.block_lt_of_cell? w _ l2))]; exact l2
    clear hbr hor
    by_cases hlt : k < E.np
    · have hlt' : (k : Int) < (E.np : Int) := by omega
      have e1 := unhide HXS
      have e2 := unhide HTS
      rw [sl_pos (by omega)] at e1 e2
      injection e1 with e1 _ e1c
      injection e2 with e2 _ e2c
      subst e1 e1c e2 e2c
      have f1 : wr.cell? ⟨E.gx, k, none⟩ = some (.int .i64 (st.X k : Int)) := by
        have h1 : w.cell? ⟨E.gx, k, none⟩ = some (.int .i64 (st.X k : Int)) := (unhide HA).rx.cell hlt
        rw [World.cell?_of_block (w := w) ((unhide HBR).block E.gx (World.block_lt_of_cell? w _ h1))]; exact h1
      have f2 : wr.cell? ⟨E.gt, k, none⟩ = some (.int .i64 (st.T k : Int)) := by
        have h1 : w.cell? ⟨E.gt, k, none⟩ = some (.int .i64 (st.T k : Int)) := (unhide HA).rt.cell hlt
        rw [World.cell?_of_block (w := w) ((unhide HBR).block E.gt (World.block_lt_of_cell? w _ h1))]; exact h1
      have hw1 : Hid (Value.int .i64 ((k : Int) + 1) = Value.int .i64 ((k + 1 : Nat) : Int)) := hide (congrArg (Value.int .i64) (by omega))
      have HOB := hide (show ∀ g, u3.ownBlock = some g → w.heap.size ≤ g ∧ g < wr.heap.size from fun g hg => (unhide HOR).lt g hg)
      go_wp2_with fail
      go_region_law ((refine step_append_lies _ (by rfl) _ _ _ (by rfl) w.heap.size 3 i0 _ 1 8 Try.underlying46 (unhide HI).1 (unhide HI).2.1 (unhide HI).2.2.1 (unhide HI).2.2.2 rfl (by omega) u3 (E.nv + 2 * k) (cells (flL st E.nv (E.nv + 2 * k))) (by rfl) (((unhide HOR).alloc _).drew) ⟨wr.heap.size, 0, none⟩ 2 2 [.int .i64 (st.X k : Int), .int .i64 (st.T k : Int)] (by rfl) (by rfl) (World.news_of_block (cs := #[.int .i64 (st.X k : Int), .int .i64 (st.T k : Int)]) (t := 3) (fr := (0, 0)) (heap_alloc_new wr _)) (by simp [Value.oneCell']) (by omega) (by unfold maxLen; omega) (by omega) (by simp; omega) (wr.heap.size + 1) (by simp) ?_; intro gg cap w3 hown1 hgrow hat hlt9))
      all_goals
        have HO2 := hide (show w3.ownsRow w.heap.size 3 1 (.slice (some ⟨gg, 0, none⟩) (E.nv + 2 * k + 2) cap) (E.nv + 2 * (k + 1)) (cells (flL st E.nv (E.nv + 2 * (k + 1)))) by
          have h1 := hown1
          rw [← flL_two]
          have e3 : cells (flL st E.nv (E.nv + 2 * k) ++ [st.X k, st.T k]) = cells (flL st E.nv (E.nv + 2 * k)) ++ [.int .i64 (st.X k : Int), .int .i64 (st.T k : Int)] := by simp [cells]
          rw [e3]
          exact h1)
        have HB2 := hide (show Below w.heap.size w w3 from (unhide HBR).trans ⟨hgrow.os, hgrow.tape, hgrow.output, by have := hgrow.size; simp at this; omega, fun j hj => by
          have h1 := hgrow.block j (by simp; omega) (fun e => by have := (unhide HOB j e.symm).1; omega)
          exact h1.trans (Below.heap_alloc wr _ j (by omega))⟩)
        clear hown1 hgrow hat hlt9
        go_wp2_with fail
        go_roundg (gk - 1)
        case measure => omega
        case rel => exact ⟨k + 1, by omega, unhide hw1, unhide HB2, unhide HO2⟩
    · have hke : k = E.np := by omega
      subst hke
      have hlt' : decide ((E.np : Int) < (E.np : Int)) = false := by simp
      go_wp2_with fail
      go_ret
      exact ⟨u3, rfl, unhide HOR, unhide HBR⟩

end Go.Proofs.Ytfcflnnleadpkaa

namespace Go.Proofs.Ytfcflnnleadpkaa
open Go.RowKit
variable {w : World}

set_option maxHeartbeats 800000 in
theorem sameInts_any {a b : Value} {m k : Nat} {L M : Nat → Int} (hm : m ≤ 1000000000000000000) (ha : Sli w a m L) (hb : Sli w b k M) :
    Calls Try.prog 23 #[a, b] w fun e w' => ∃ x, e = .returned (.bool x) ∧ (x = true ↔ m = k ∧ ∀ i, i < m → L i = M i) ∧ ∃ q, w' = w.drewN q := by
  obtain ⟨aa, ac, rfl, _, hca⟩ := ha
  obtain ⟨ba, bc, rfl, _, hcb⟩ := hb
  have HCA := hide hca
  have HCB := hide hcb
  clear hca hcb
  by_cases hmk : m = k
  · subst hmk
    go_enter Try.func23, Try.ntmps23
    go_wp2_with fail
    go_loopg [5] m (fun g d wr => ∃ (j q : Nat), j + g = m ∧ d = .int .i64 (j : Int) ∧ wr = w.drewN q ∧ ∀ i, i < j → L i = M i)
    case atStart => exact ⟨0, 0, Nat.zero_add _, rfl, rfl, fun i hi => by omega⟩
    case round =>
      obtain ⟨j, q, hjg, rfl, rfl, hall⟩ := hrel
      have HALL := hide hall
      clear hall
      by_cases hlt : j < m
      · have hlt' : (j : Int) < (m : Int) := by omega
        obtain ⟨ad, rfl, c1⟩ := unhide HCA j hlt
        obtain ⟨bd, rfl, c2⟩ := unhide HCB j hlt
        have hw1 : Hid (Value.int .i64 ((j : Int) + 1) = Value.int .i64 ((j + 1 : Nat) : Int)) := hide (congrArg (Value.int .i64) (by omega))
        obtain ⟨x, HX⟩ : ∃ x, Hid (L j = x) := ⟨_, rfl⟩
        obtain ⟨y, HY⟩ : ∃ y, Hid (M j = y) := ⟨_, rfl⟩
        rw [unhide HX] at c1
        rw [unhide HY] at c2
        by_cases hxy : x = y
        · subst hxy
          go_wp2_with fail
          go_quiet (fail)
          go_wp2_with fail
          go_roundg (gk - 1)
          case measure => omega
          case rel => exact ⟨j + 1, q + nq, by omega, unhide hw1, rfl, fun i hi => by
            by_cases e : i = j
            · rw [e, unhide HX, unhide HY]
            · exact unhide HALL i (by omega)⟩
        · have hxy' : decide (x = y) = false := by simpa using hxy
          go_wp2_with fail
          go_quiet (fail)
          go_wp2_with fail
          go_ret
          refine ⟨false, rfl, ⟨(fun h => by cases h), fun h => ?_⟩, q + nq, by rw [World.drewN_drewN]⟩
          have := h.2 j hlt
          rw [unhide HX, unhide HY] at this
          exact absurd this hxy
      · have hje : j = m := by omega
        subst hje
        have hlt' : decide ((j : Int) < (j : Int)) = false := by simp
        go_wp2_with fail
        go_ret
        exact ⟨true, rfl, ⟨fun _ => ⟨by trivial, unhide HALL⟩, fun _ => rfl⟩, q, rfl⟩
  · have hmk' : decide ((m : Int) = (k : Int)) = false := by simp; omega
    go_enter Try.func23, Try.ntmps23
    go_wp2_with fail
    go_ret
    exact ⟨false, rfl, ⟨(fun h => by cases h), fun h => absurd h.1 hmk⟩, 0, rfl⟩

end Go.Proofs.Ytfcflnnleadpkaa

namespace Go.Proofs.Ytfcflnnleadpkaa
open Go.RowKit

def LabAns (o s : ByteArray) (e : Ending) (w' : World) : Prop :=
  ∃ (a p : Int) (n : Nat), CkPost o s a p n ∧ ((a ≠ 0 ∧ e = .returned (.tuple #[.slice none 0 0, .int .i64 a])) ∨
    (a = 0 ∧ p = 0 ∧ ∃ v, Sli w' v (prNv s n + 2 * (prPs s n).length) (lv (flF (ckL o s n) (prNv s n))) ∧ e = .returned (.tuple #[v, .int .i64 0])))
def HushLabels : Prop := ∀ (w : World) (o s : ByteArray), Calls Try.prog 21 #[.string o, .string s] w fun e w' => LabAns o s e w' ∧ Below w.heap.size w w'

set_option maxHeartbeats 400000 in
theorem Checks_walk (H : HushCheck) (w : World) (o s : ByteArray) :
    Calls Try.prog 6 #[.string o, .string s] w fun e w' => e = .returned (.bool true) ∧ Below w.heap.size w w' := by
  have HC := hide H
  clear H
  go_enter Try.func6, Try.ntmps6
  go_wp2_with fail
  refine (unhide HC _ _ _).mono ?_
  rintro e w1 ⟨⟨a, p, n, hr, rfl⟩, hb⟩
  have HR := hide hr
  clear hr
  go_wp2_with fail
  refine (Check_any _ _ _).mono ?_
  rintro e w2 ⟨⟨a', p', n', hr', hans⟩, hb2⟩
  obtain ⟨rfl, rfl, rfl⟩ := CkPost_uniq (unhide HR) hr'
  have HB := hide (hb.trans (hb2.mono hb.size))
  clear hr' hb2 hb
  rcases hans with ⟨ha, rfl⟩ | ⟨rfl, rfl, E, hS, hA, hp, hl, rfl⟩
  · go_wp2_with fail
    refine (num_any _ _).mono ?_
    rintro e w' ⟨rfl, rfl⟩
    go_wp2_with fail
    go_ret
    exact ⟨rfl, unhide HB⟩
  · clear hS hA hp hl
    go_wp2_with fail
    refine (num_any _ _).mono ?_
    rintro e w' ⟨rfl, rfl⟩
    go_wp2_with fail
    go_ret
    exact ⟨rfl, unhide HB⟩

set_option maxHeartbeats 800000 in
set_option maxRecDepth 100000 in
theorem Labelled_walk (H : HushLabels) (w : World) (o s : ByteArray) :
    Calls Try.prog 7 #[.string o, .string s] w fun e w' => e = .returned (.bool true) ∧ Below w.heap.size w w' := by
  have HC := hide H
  clear H
  go_enter Try.func7, Try.ntmps7
  go_wp2_with fail
  refine (unhide HC _ _ _).mono ?_
  rintro e w1 ⟨⟨a, p, n, hr, hans⟩, hb⟩
  have HR := hide hr
  have HB1 := hide hb
  clear hr hb
  rcases hans with ⟨ha, rfl⟩ | ⟨rfl, rfl, v, hsl, rfl⟩
  · have ha' : decide (a = 0) = false := by simpa using ha
    have hnil : ∀ w, (binOp .eql 46 (.slice none 0 0) (.slice none 0 0)).run Try.prog w = .ok (.bool true) w := fun w => Lib.run_eql_slice_nil w _ _ none 0 0 0 0 Try.underlying46
    go_wp2_with fail
    refine (Check_any _ _ _).mono ?_
    rintro e w2 ⟨⟨a', p', n', hr', hans⟩, hb2⟩
    obtain ⟨rfl, rfl, rfl⟩ := CkPost_uniq (unhide HR) hr'
    have HB := hide ((unhide HB1).trans (hb2.mono (unhide HB1).size))
    clear hr' hb2
    rcases hans with ⟨ha2, rfl⟩ | ⟨h0, _, E, hS, hA, hp, hl, rfl⟩
    · go_wp2_with fail
      refine (num_any _ _).mono ?_
      rintro e w' ⟨rfl, rfl⟩
      go_wp2_with fail
      go_ret
      exact ⟨rfl, unhide HB⟩
    · exact absurd h0 ha
  · have HSL := hide hsl
    clear hsl
    go_wp2_with fail
    refine (Check_any _ _ _).mono ?_
    rintro e w2 ⟨⟨a', p', n', hr', hans⟩, hb2⟩
    obtain ⟨rfl, rfl, rfl⟩ := CkPost_uniq (unhide HR) hr'
    have HB2 := hide hb2
    have HB := hide ((unhide HB1).trans (hb2.mono (unhide HB1).size))
    have HSL2 := hide ((unhide HSL).below hb2)
    clear hr' hb2
    rcases hans with ⟨ha2, _⟩ | ⟨_, _, E, hS, hA, hp, hl, rfl⟩
    · exact absurd rfl ha2
    · have HA := hide hA
      have hnv : E.nv = prNv s n := by rw [hS.nv]; rfl
      have hnp : E.np = (prPs s n).length := by rw [hS.np]; rfl
      have HN := hide (And.intro hnv hnp)
      have h8 : E.nv ≤ 8 := by rw [hnv]; exact nvOf_le _ _
      have HQ := hide (show (prPs s n).length ≤ 4 from by
        rcases unhide HR with ⟨_, h⟩ | ⟨_, h, e, _⟩ | ⟨_, _, _, e, _⟩ | ⟨hr, hp, _⟩
        · exact absurd rfl h
        · exact absurd e.symm h
        · omega
        · exact (known hr hp).np)
      have h4 : E.np ≤ 4 := by rw [hnp]; exact unhide HQ
      clear hS hA hp hl hnv hnp
      go_wp2_with fail
      refine (num_any _ _).mono ?_
      rintro e w' ⟨rfl, rfl⟩
      go_wp2_with fail
      refine (Flat_any h8 h4 (unhide HA)).mono ?_
      rintro e w3 ⟨u, rfl, hown, hb3⟩
      have HU := hide (Sli.own (F := lv (flF (ckL o s n) E.nv)) hown (fun k hk => by simp [cells, flL, hk, lv]))
      have HSL3 := hide ((unhide HSL2).below hb3)
      have HB3 := hide ((unhide HB).trans (hb3.mono (unhide HB).size))
      have hq16 : prNv s n + 2 * (prPs s n).length ≤ 1000000 := by
        have := unhide HQ
        have := nvOf_le (bt s) n
        unfold prNv
        omega
      clear hown hb3
      go_wp2_with fail
      refine (sameInts_any (Nat.le_trans hq16 (by decide)) (unhide HSL3) (unhide HU)).mono ?_
      rintro e w4 ⟨x, rfl, hx, q, rfl⟩
      have hxt : x = true := hx.2 ⟨by rw [(unhide HN).1, (unhide HN).2], fun i _ => by rw [(unhide HN).1]⟩
      subst hxt
      clear hx
      go_wp2_with fail
      go_ret
      exact ⟨rfl, below_drewN2 (unhide HB3) q⟩

end Go.Proofs.Ytfcflnnleadpkaa

namespace Go.Proofs.Ytfcflnnleadpkaa
open Go.RowKit

/-- A row of m cells, by its index. -/
def rowF (F : Nat → Value) (m : Nat) : Array Value := ((List.range m).map F).toArray
theorem rowF_size (F : Nat → Value) (m : Nat) : (rowF F m).size = m := by simp [rowF]
theorem rowF_get (F : Nat → Value) (m k : Nat) (h : k < m) : (rowF F m)[k]? = some (F k) := by simp [rowF, h]
theorem rowF_getE (F : Nat → Value) (m k : Nat) (h : k < (rowF F m).size) : (rowF F m)[k] = F k := by simp [rowF]
theorem rowF_congr {F G : Nat → Value} {m : Nat} (h : ∀ k, k < m → F k = G k) : rowF F m = rowF G m := by
  unfold rowF
  congr 1
  apply List.map_congr_left
  intro k hk
  exact h k (by simpa using hk)
theorem rowF_set {F G : Nat → Value} {m a : Nat} {v : Value} (h1 : G a = v) (h : ∀ k, k < m → k ≠ a → F k = G k) : (rowF F m).setIfInBounds a v = rowF G m := by
  apply Array.ext_getElem?
  intro k
  rw [Array.getElem?_setIfInBounds, rowF_size]
  by_cases hk : k < m
  · rw [rowF_get G m k hk, rowF_get F m k hk]
    by_cases e : a = k
    · subst e; rw [if_pos rfl, if_pos hk, h1]
    · rw [if_neg e, h k hk (fun x => e x.symm)]
  · have e1 : (rowF G m)[k]? = none := by rw [Array.getElem?_eq_none]; rw [rowF_size]; omega
    have e2 : (rowF F m)[k]? = none := by rw [Array.getElem?_eq_none]; rw [rowF_size]; omega
    rw [e1, e2]
    split
    · rw [if_neg (by omega)]
    · rfl
theorem rowF_all {F : Nat → Value} {m : Nat} (h : ∀ k, (F k).oneCell' = true) : (rowF F m).all (·.oneCell') = true := by
  rw [Array.all_eq_true_iff_forall_mem]
  intro v hv
  simp [rowF] at hv
  obtain ⟨k, _, rfl⟩ := hv
  exact h k
theorem rowF_cell {w : World} {b k m : Nat} {F : Nat → Value} {t : TypeId} {fr : Nat × Nat} (h : w.heap[b]? = some (.cells (rowF F m) t fr)) (hk : k < m) : w.cell? ⟨b, k, none⟩ = some (F k) := by
  rw [cell_of_row w b k _ t fr h, rowF_get F m k hk]

/-- The cells of a lattice, by index. -/
def latF (e p n : Int) (R : Nat → Nat → Bool) (J : Nat → Nat → Int) (z : Int) (k : Nat) : Value :=
  if k = 0 then .int .i64 e else if k = 1 then .int .i64 p else if k = 2 then .int .i64 n
  else if k < 67 then .bool (R ((k - 3) / 8) ((k - 3) % 8)) else if k < 131 then .int .i64 (J ((k - 67) / 8) ((k - 67) % 8)) else .int .i64 z
def latJ (e p n : Int) (R : Nat → Nat → Bool) (J : Nat → Nat → Int) (z : Int) : Array Value := rowF (latF e p n R J z) 132
def noJ : Nat → Nat → Int := fun _ _ => 0
/-- A lattice whose joins are not kept yet. -/
def latC (e p n : Int) (R : Nat → Nat → Bool) : Array Value := latJ e p n R noJ 0
theorem latC_J (e p n : Int) (R : Nat → Nat → Bool) : latC e p n R = latJ e p n R noJ 0 := rfl

theorem latF_one (e p n : Int) (R : Nat → Nat → Bool) (J : Nat → Nat → Int) (z : Int) (k : Nat) : (latF e p n R J z k).oneCell' = true := by
  unfold latF
  repeat' split
  all_goals rfl
theorem latF_ij (e p n : Int) (R : Nat → Nat → Bool) (J : Nat → Nat → Int) (z : Int) (i j : Nat) (hi : i < 8) (hj : j < 8) : latF e p n R J z (3 + i * 8 + j) = .bool (R i j) := by
  unfold latF
  rw [if_neg (by omega), if_neg (by omega), if_neg (by omega), if_pos (by omega), show (3 + i * 8 + j - 3) / 8 = i by omega, show (3 + i * 8 + j - 3) % 8 = j by omega]
theorem latF_jj (e p n : Int) (R : Nat → Nat → Bool) (J : Nat → Nat → Int) (z : Int) (i j : Nat) (hi : i < 8) (hj : j < 8) : latF e p n R J z (67 + i * 8 + j) = .int .i64 (J i j) := by
  unfold latF
  rw [if_neg (by omega), if_neg (by omega), if_neg (by omega), if_neg (by omega), if_pos (by omega), show (67 + i * 8 + j - 67) / 8 = i by omega, show (67 + i * 8 + j - 67) % 8 = j by omega]
theorem latJ_size (e p n : Int) (R : Nat → Nat → Bool) (J : Nat → Nat → Int) (z : Int) : (latJ e p n R J z).size = 132 := rowF_size _ _
theorem latJ_all (e p n : Int) (R : Nat → Nat → Bool) (J : Nat → Nat → Int) (z : Int) : (latJ e p n R J z).all (·.oneCell') = true := rowF_all (latF_one _ _ _ _ _ _)
theorem latC_size (e p n : Int) (R : Nat → Nat → Bool) : (latC e p n R).size = 132 := rowF_size _ _
theorem latC_all (e p n : Int) (R : Nat → Nat → Bool) : (latC e p n R).all (·.oneCell') = true := latJ_all _ _ _ _ _ _
theorem latC_ij (e p n : Int) (R : Nat → Nat → Bool) (i j : Nat) (hi : i < 8) (hj : j < 8) : (latC e p n R)[3 + i * 8 + j]? = some (.bool (R i j)) := by
  unfold latC latJ
  rw [rowF_get _ _ _ (by omega), latF_ij _ _ _ _ _ _ _ _ hi hj]
theorem latJ_congr (e p n : Int) (R S : Nat → Nat → Bool) (J K : Nat → Nat → Int) (z : Int) (h : ∀ i j, i < 8 → j < 8 → R i j = S i j) (hJ : ∀ i j, i < 8 → j < 8 → J i j = K i j) : latJ e p n R J z = latJ e p n S K z := by
  refine rowF_congr (fun k hk => ?_)
  unfold latF
  by_cases h3 : k < 67
  · repeat' split
    all_goals try rfl
    all_goals first | omega | rw [h ((k - 3) / 8) ((k - 3) % 8) (by omega) (by omega)]
  · repeat' split
    all_goals try rfl
    all_goals first | omega | rw [hJ ((k - 67) / 8) ((k - 67) % 8) (by omega) (by omega)]
theorem latC_congr (e p n : Int) (R S : Nat → Nat → Bool) (h : ∀ i j, i < 8 → j < 8 → R i j = S i j) : latC e p n R = latC e p n S := latJ_congr _ _ _ _ _ _ _ _ h (fun _ _ _ _ => rfl)
theorem latC_set (e p n : Int) (R : Nat → Nat → Bool) (a b : Nat) (v : Bool) (ha : a < 8) (hb : b < 8) : (latC e p n R).setIfInBounds (3 + a * 8 + b) (.bool v) = latC e p n (updV R a b v) := by
  refine rowF_set ?_ (fun k hk hne => ?_)
  · rw [latF_ij _ _ _ _ _ _ _ _ ha hb]; simp [updV]
  · unfold latF
    repeat' split
    all_goals try rfl
    rename_i h1 h2 h3 h4
    have : ((k - 3) / 8 == a && (k - 3) % 8 == b) = false := by
      cases h : ((k - 3) / 8 == a && (k - 3) % 8 == b) with
      | false => rfl
      | true => simp at h; exact absurd (by omega) hne
    simp [updV, this]
def updJ (J : Nat → Nat → Int) (a b : Nat) (v : Int) : Nat → Nat → Int := fun i j => if i == a && j == b then v else J i j
theorem latJ_set (e p n : Int) (R : Nat → Nat → Bool) (J : Nat → Nat → Int) (z : Int) (a b : Nat) (v : Int) (ha : a < 8) (hb : b < 8) : (latJ e p n R J z).setIfInBounds (67 + a * 8 + b) (.int .i64 v) = latJ e p n R (updJ J a b v) z := by
  refine rowF_set ?_ (fun k hk hne => ?_)
  · rw [latF_jj _ _ _ _ _ _ _ _ ha hb]; simp [updJ]
  · unfold latF
    repeat' split
    all_goals try rfl
    rename_i h1 h2 h3 h4 h5
    have : ((k - 67) / 8 == a && (k - 67) % 8 == b) = false := by
      cases h : ((k - 67) / 8 == a && (k - 67) % 8 == b) with
      | false => rfl
      | true => simp at h; exact absurd (by omega) hne
    simp [updJ, this]
theorem latJ_setz (e p n : Int) (R : Nat → Nat → Bool) (J : Nat → Nat → Int) (z z' : Int) : (latJ e p n R J z).setIfInBounds 131 (.int .i64 z') = latJ e p n R J z' := by
  refine rowF_set rfl (fun k hk hne => ?_)
  unfold latF
  repeat' split
  all_goals first | rfl | omega
theorem latC_set0 (e e' p n : Int) (R : Nat → Nat → Bool) : (latC e p n R).setIfInBounds 0 (.int .i64 e') = latC e' p n R := by
  refine rowF_set rfl (fun k hk hne => ?_)
  unfold latF; rw [if_neg hne, if_neg hne]
theorem latC_set1 (e p p' n : Int) (R : Nat → Nat → Bool) : (latC e p n R).setIfInBounds 1 (.int .i64 p') = latC e p' n R := by
  refine rowF_set rfl (fun k hk hne => ?_)
  unfold latF; rw [if_neg hne, if_neg hne]
theorem latC_set2 (e p n n' : Int) (R : Nat → Nat → Bool) : (latC e p n R).setIfInBounds 2 (.int .i64 n') = latC e p n' R := by
  refine rowF_set rfl (fun k hk hne => ?_)
  unfold latF; rw [if_neg hne, if_neg hne]
theorem latJ_g0 (e p n : Int) (R : Nat → Nat → Bool) (J : Nat → Nat → Int) (z : Int) (h : 0 < (latJ e p n R J z).size) : (latJ e p n R J z)[0] = .int .i64 e := rowF_getE _ _ _ h
theorem latJ_g1 (e p n : Int) (R : Nat → Nat → Bool) (J : Nat → Nat → Int) (z : Int) (h : 1 < (latJ e p n R J z).size) : (latJ e p n R J z)[1] = .int .i64 p := rowF_getE _ _ _ h
theorem latC_g0 (e p n : Int) (R : Nat → Nat → Bool) (h : 0 < (latC e p n R).size) : (latC e p n R)[0] = .int .i64 e := rowF_getE _ _ _ h
theorem latC_g1 (e p n : Int) (R : Nat → Nat → Bool) (h : 1 < (latC e p n R).size) : (latC e p n R)[1] = .int .i64 p := rowF_getE _ _ _ h

end Go.Proofs.Ytfcflnnleadpkaa

namespace Go.Proofs.Ytfcflnnleadpkaa
open Go.RowKit

/-- A lattice in memory at the block b: its count and its table. -/
structure LatM (w : World) (b o : Nat) (n : Nat) (R : Nat → Nat → Bool) : Prop where
  cnt : w.cell? ⟨b, o + 2, none⟩ = some (.int .i64 (n : Int))
  bel : ∀ i j, i < 8 → j < 8 → w.cell? ⟨b, o + 3 + i * 8 + j, none⟩ = some (.bool (R i j))

set_option maxHeartbeats 400000 in
theorem has_any (w : World) (b o n : Nat) (a : Int) (hc : w.cell? ⟨b, o + 2, none⟩ = some (.int .i64 (n : Int))) :
    Calls Try.prog 36 #[.pointer (some ⟨b, o, none⟩), .int .i64 a] w fun e w' => e = .returned (.bool (decide (0 ≤ a ∧ a < (n : Int)))) ∧ w' = w := by
  by_cases h0 : 0 ≤ a
  · by_cases h1 : a < (n : Int)
    · go_enter Try.func36, Try.ntmps36
      go_wp2
      go_ret
      exact ⟨by simp [h0, h1], rfl⟩
    · go_enter Try.func36, Try.ntmps36
      go_wp2
      go_ret
      exact ⟨by simp [h1], rfl⟩
  · have hd : decide (0 ≤ a) = false := by simpa using h0
    have hr : decide (0 ≤ a ∧ a < (n : Int)) = false := by simp; omega
    go_enter Try.func36, Try.ntmps36
    go_wp2
    go_ret
    exact ⟨rfl, rfl⟩

set_option maxHeartbeats 400000 in
theorem isBelow_any (w : World) (b o n i j : Nat) (R : Nat → Nat → Bool) (hn : n ≤ 8) (hl : LatM w b o n R) (hi : i < n) (hj : j < n) :
    Calls Try.prog 70 #[.pointer (some ⟨b, o, none⟩), .int .i64 (i : Int), .int .i64 (j : Int)] w fun e w' => e = .returned (.bool (R i j)) ∧ w' = w := by
  have hc := hl.cnt
  have hb := hl.bel i j (by omega) (by omega)
  have q1 : decide (0 ≤ (i : Int) ∧ (i : Int) < (n : Int)) = true := by simp; omega
  have q2 : decide (0 ≤ (j : Int) ∧ (j : Int) < (n : Int)) = true := by simp; omega
  have hi' : (i : Int) < 8 := by omega
  have hj' : (j : Int) < 8 := by omega
  go_enter Try.func70, Try.ntmps70
  go_wp2_with (go_at_call 36; refine (has_any _ _ _ _ _ hc).mono ?_; rintro e w' ⟨rfl, rfl⟩)
  go_ret
  exact ⟨rfl, rfl⟩

set_option maxHeartbeats 400000 in
theorem bothBelow_any (w : World) (b o n i j k : Nat) (R : Nat → Nat → Bool) (hn : n ≤ 8) (hl : LatM w b o n R) (hi : i < n) (hj : j < n) (hk : k < n) :
    Calls Try.prog 110 #[.pointer (some ⟨b, o, none⟩), .int .i64 (i : Int), .int .i64 (j : Int), .int .i64 (k : Int)] w fun e w' => e = .returned (.bool (Hm.both R i j k)) ∧ w' = w := by
  unfold Hm.both
  cases h1 : R i k
  · go_enter Try.func110, Try.ntmps110
    go_wp2_with fail
    refine (isBelow_any _ _ _ _ _ _ _ hn hl hi hk).mono ?_
    rintro e w' ⟨rfl, rfl⟩
    go_wp2_with fail
    go_ret
    exact ⟨rfl, rfl⟩
  · go_enter Try.func110, Try.ntmps110
    go_wp2_with fail
    refine (isBelow_any _ _ _ _ _ _ _ hn hl hi hk).mono ?_
    rintro e w' ⟨rfl, rfl⟩
    go_wp2_with fail
    refine (isBelow_any _ _ _ _ _ _ _ hn hl hj hk).mono ?_
    rintro e w' ⟨rfl, rfl⟩
    go_wp2_with fail
    go_ret
    exact ⟨rfl, rfl⟩

set_option maxHeartbeats 400000 in
theorem isJoin_any (w : World) (b o n i j k : Nat) (R : Nat → Nat → Bool) (hn : n ≤ 8) (hl : LatM w b o n R) (hi : i < n) (hj : j < n) (hk : k < n) :
    Calls Try.prog 96 #[.pointer (some ⟨b, o, none⟩), .int .i64 (i : Int), .int .i64 (j : Int), .int .i64 (k : Int)] w fun e w' => e = .returned (.bool (Hm.lub R n i j k)) ∧ w' = w := by
  have hc := hl.cnt
  cases h1 : Hm.both R i j k
  · have HF := hide (show Hm.lub R n i j k = false by simp [Hm.lub, h1])
    go_enter Try.func96, Try.ntmps96
    go_wp2_with fail
    refine (bothBelow_any _ _ _ _ _ _ _ _ hn hl hi hj hk).mono ?_
    rintro e w' ⟨rfl, rfl⟩
    go_wp2_with fail
    go_ret
    exact ⟨by rw [unhide HF]; rfl, rfl⟩
  · have HF := hide (show Hm.lub R n i j k = Hm.allB (Hm.lubD R i j k) n 0 by simp [Hm.lub, h1])
    go_enter Try.func96, Try.ntmps96
    go_wp2_with fail
    refine (bothBelow_any _ _ _ _ _ _ _ _ hn hl hi hj hk).mono ?_
    rintro e w' ⟨rfl, rfl⟩
    go_wp2_with fail
    go_loop [9] (fun d => ∃ m : Nat, m ≤ n ∧ d = .int .i64 (m : Int) ∧ Hm.allB (Hm.lubD R i j k) n 0 = Hm.allB (Hm.lubD R i j k) (n - m) m) (fun d => n - (intOf d).toNat)
    case atStart => exact ⟨0, Nat.zero_le _, rfl, rfl⟩
    case round =>
      obtain ⟨m, hm, rfl, hq⟩ := hrel
      have HQ := hide hq
      clear hq
      by_cases hlt : m < n
      · cases h2 : Hm.both R i j m
        · have HS := hide (Hm.allB_yes (p := Hm.lubD R i j k) hlt (by simp [Hm.lubD, h2]))
          go_wp2_with fail
          refine (bothBelow_any _ _ _ _ _ _ _ _ hn hl hi hj hlt).mono ?_
          rintro e w' ⟨rfl, rfl⟩
          go_wp2_with fail
          go_round
          case rel => exact ⟨m + 1, by omega, by go_num, by rw [unhide HQ, unhide HS]⟩
          case measure => simp [intOf]; omega
        · cases h3 : R k m
          · have HS := hide (Hm.allB_no (p := Hm.lubD R i j k) hlt (by simp [Hm.lubD, h2, h3]))
            go_wp2_with fail
            refine (bothBelow_any _ _ _ _ _ _ _ _ hn hl hi hj hlt).mono ?_
            rintro e w' ⟨rfl, rfl⟩
            go_wp2_with fail
            refine (isBelow_any _ _ _ _ _ _ _ hn hl hk hlt).mono ?_
            rintro e w' ⟨rfl, rfl⟩
            go_wp2_with fail
            go_ret
            exact ⟨by rw [unhide HF, unhide HQ, unhide HS]; rfl, rfl⟩
          · have HS := hide (Hm.allB_yes (p := Hm.lubD R i j k) hlt (by simp [Hm.lubD, h2, h3]))
            go_wp2_with fail
            refine (bothBelow_any _ _ _ _ _ _ _ _ hn hl hi hj hlt).mono ?_
            rintro e w' ⟨rfl, rfl⟩
            go_wp2_with fail
            refine (isBelow_any _ _ _ _ _ _ _ hn hl hk hlt).mono ?_
            rintro e w' ⟨rfl, rfl⟩
            go_wp2_with fail
            go_round
            case rel => exact ⟨m + 1, by omega, by go_num, by rw [unhide HQ, unhide HS]⟩
            case measure => simp [intOf]; omega
      · have HS := hide (Hm.allB_end (p := Hm.lubD R i j k) (n := n) (k := m) (by omega))
        go_wp2_with fail
        go_ret
        exact ⟨by rw [unhide HF, unhide HQ, unhide HS]; rfl, rfl⟩

end Go.Proofs.Ytfcflnnleadpkaa

namespace Go.Proofs.Ytfcflnnleadpkaa
open Go.RowKit

set_option maxHeartbeats 400000 in
theorem findJoin_any (w : World) (b o n i j : Nat) (R : Nat → Nat → Bool) (hn : n ≤ 8) (hl : LatM w b o n R) (hi : i < n) (hj : j < n) :
    Calls Try.prog 69 #[.pointer (some ⟨b, o, none⟩), .int .i64 (i : Int), .int .i64 (j : Int)] w fun e w' => e = .returned (.int .i64 (Hm.joinI R n i j)) ∧ w' = w := by
  have hc := hl.cnt
  have HF := hide (show Hm.joinI R n i j = Hm.firstB (Hm.lub R n i j) n 0 from rfl)
  go_enter Try.func69, Try.ntmps69
  go_wp2_with fail
  go_loop [7] (fun d => ∃ m : Nat, m ≤ n ∧ d = .int .i64 (m : Int) ∧ Hm.firstB (Hm.lub R n i j) n 0 = Hm.firstB (Hm.lub R n i j) (n - m) m) (fun d => n - (intOf d).toNat)
  case atStart => exact ⟨0, Nat.zero_le _, rfl, rfl⟩
  case round =>
    obtain ⟨m, hm, rfl, hq⟩ := hrel
    have HQ := hide hq
    clear hq
    by_cases hlt : m < n
    · cases h2 : Hm.lub R n i j m
      · have HS := hide (Hm.firstB_no (p := Hm.lub R n i j) hlt h2)
        go_wp2_with fail
        refine (isJoin_any _ _ _ _ _ _ _ _ hn hl hi hj hlt).mono ?_
        rintro e w' ⟨rfl, rfl⟩
        go_wp2_with fail
        go_round
        case rel => exact ⟨m + 1, by omega, by go_num, by rw [unhide HQ, unhide HS]⟩
        case measure => simp [intOf]; omega
      · have HS := hide (Hm.firstB_yes (p := Hm.lub R n i j) hlt h2)
        go_wp2_with fail
        refine (isJoin_any _ _ _ _ _ _ _ _ hn hl hi hj hlt).mono ?_
        rintro e w' ⟨rfl, rfl⟩
        go_wp2_with fail
        go_ret
        exact ⟨by rw [unhide HF, unhide HQ, unhide HS]; rfl, rfl⟩
    · have HS := hide (Hm.firstB_end (p := Hm.lub R n i j) (n := n) (k := m) (by omega))
      go_wp2_with fail
      go_ret
      exact ⟨by rw [unhide HF, unhide HQ, unhide HS]; rfl, rfl⟩

set_option maxHeartbeats 400000 in
theorem hasCircle_any (w : World) (b o n : Nat) (R : Nat → Nat → Bool) (hn : n ≤ 8) (hl : LatM w b o n R) :
    Calls Try.prog 66 #[.pointer (some ⟨b, o, none⟩)] w fun e w' => e = .returned (.bool (Hm.circ R n)) ∧ w' = w := by
  have hc := hl.cnt
  have HF := hide (show Hm.circ R n = Hm.anyB (Hm.circRow R) n 0 from rfl)
  go_enter Try.func66, Try.ntmps66
  go_wp2_with fail
  go_loop [3] (fun d => ∃ a : Nat, a ≤ n ∧ d = .int .i64 (a : Int) ∧ Hm.anyB (Hm.circRow R) n 0 = Hm.anyB (Hm.circRow R) (n - a) a) (fun d => n - (intOf d).toNat)
  case atStart => exact ⟨0, Nat.zero_le _, rfl, rfl⟩
  case round =>
    obtain ⟨a, ha, rfl, hq⟩ := hrel
    have HQ := hide hq
    clear hq
    by_cases hlt : a < n
    · have HY := hide (fun h => Hm.anyB_yes (p := Hm.circRow R) hlt h)
      have HN := hide (fun h => Hm.anyB_no (p := Hm.circRow R) hlt h)
      have HG := hide (show Hm.circRow R a = Hm.anyB (Hm.circD R a) a 0 from rfl)
      have ha' : (a : Int) < 8 := by omega
      go_wp2_with fail
      go_loop [4] (fun d => ∃ m : Nat, m ≤ a ∧ d = .int .i64 (m : Int) ∧ Hm.anyB (Hm.circD R a) a 0 = Hm.anyB (Hm.circD R a) (a - m) m) (fun d => a - (intOf d).toNat)
      case atStart => exact ⟨0, Nat.zero_le _, rfl, rfl⟩
      case round =>
        obtain ⟨m, hm, rfl, hq⟩ := hrel
        have HP := hide hq
        clear hq
        by_cases hlm : m < a
        · have hb1 := hl.bel a m (by omega) (by omega)
          have hb2 := hl.bel m a (by omega) (by omega)
          have hm' : (m : Int) < 8 := by omega
          cases h1 : R a m
          · have HS := hide (Hm.anyB_no (p := Hm.circD R a) hlm (by simp [Hm.circD, h1]))
            rw [h1] at hb1
            go_wp2_with fail
            go_round
            case rel => exact ⟨m + 1, by omega, by go_num, by rw [unhide HP, unhide HS]⟩
            case measure => simp [intOf]; omega
          · rw [h1] at hb1
            cases h2 : R m a
            · have HS := hide (Hm.anyB_no (p := Hm.circD R a) hlm (by simp [Hm.circD, h2]))
              rw [h2] at hb2
              go_wp2_with fail
              go_round
              case rel => exact ⟨m + 1, by omega, by go_num, by rw [unhide HP, unhide HS]⟩
              case measure => simp [intOf]; omega
            · have HS := hide (Hm.anyB_yes (p := Hm.circD R a) hlm (by simp [Hm.circD, h1, h2]))
              rw [h2] at hb2
              go_wp2_with fail
              go_ret
              exact ⟨by rw [unhide HF, unhide HQ, unhide HY (by rw [unhide HG, unhide HP, unhide HS])]; rfl, rfl⟩
        · have HS := hide (Hm.anyB_end (p := Hm.circD R a) (n := a) (k := m) (by omega))
          go_wp2_with fail
          go_round
          case rel => exact ⟨a + 1, by omega, by go_num, by rw [unhide HQ, unhide HN (by rw [unhide HG, unhide HP, unhide HS])]⟩
          case measure => simp [intOf]; omega
    · have HS := hide (Hm.anyB_end (p := Hm.circRow R) (n := n) (k := a) (by omega))
      go_wp2_with fail
      go_ret
      exact ⟨by rw [unhide HF, unhide HQ, unhide HS]; rfl, rfl⟩

set_option maxHeartbeats 400000 in
theorem hasJoins_any (w : World) (b o n : Nat) (R : Nat → Nat → Bool) (hn : n ≤ 8) (hl : LatM w b o n R) :
    Calls Try.prog 67 #[.pointer (some ⟨b, o, none⟩)] w fun e w' => e = .returned (.bool (Hm.hasJ R n)) ∧ w' = w := by
  have hc := hl.cnt
  have HF := hide (show Hm.hasJ R n = Hm.allB (Hm.hasRow R n) n 0 from rfl)
  go_enter Try.func67, Try.ntmps67
  go_wp2_with fail
  go_loop [3] (fun d => ∃ a : Nat, a ≤ n ∧ d = .int .i64 (a : Int) ∧ Hm.allB (Hm.hasRow R n) n 0 = Hm.allB (Hm.hasRow R n) (n - a) a) (fun d => n - (intOf d).toNat)
  case atStart => exact ⟨0, Nat.zero_le _, rfl, rfl⟩
  case round =>
    obtain ⟨a, ha, rfl, hq⟩ := hrel
    have HQ := hide hq
    clear hq
    by_cases hlt : a < n
    · have HY := hide (fun h => Hm.allB_yes (p := Hm.hasRow R n) hlt h)
      have HN := hide (fun h => Hm.allB_no (p := Hm.hasRow R n) hlt h)
      have HG := hide (show Hm.hasRow R n a = Hm.allB (Hm.hasD R n a) a 0 from rfl)
      go_wp2_with fail
      go_loop [4] (fun d => ∃ m : Nat, m ≤ a ∧ d = .int .i64 (m : Int) ∧ Hm.allB (Hm.hasD R n a) a 0 = Hm.allB (Hm.hasD R n a) (a - m) m) (fun d => a - (intOf d).toNat)
      case atStart => exact ⟨0, Nat.zero_le _, rfl, rfl⟩
      case round =>
        obtain ⟨m, hm, rfl, hq⟩ := hrel
        have HP := hide hq
        clear hq
        by_cases hlm : m < a
        · have hmn : m < n := by omega
          cases h1 : (Hm.joinI R n a m == -1)
          · have HS := hide (Hm.allB_yes (p := Hm.hasD R n a) hlm (by unfold Hm.hasD; rw [h1]; rfl))
            go_wp2_with fail
            refine (findJoin_any _ _ _ _ _ _ _ hn hl hlt hmn).mono ?_
            rintro e w' ⟨rfl, rfl⟩
            go_wp2_with fail
            go_round
            case rel => exact ⟨m + 1, by omega, by go_num, by rw [unhide HP, unhide HS]⟩
            case measure => simp [intOf]; omega
          · have HS := hide (Hm.allB_no (p := Hm.hasD R n a) hlm (by unfold Hm.hasD; rw [h1]; rfl))
            go_wp2_with fail
            refine (findJoin_any _ _ _ _ _ _ _ hn hl hlt hmn).mono ?_
            rintro e w' ⟨rfl, rfl⟩
            go_wp2_with fail
            go_ret
            exact ⟨by rw [unhide HF, unhide HQ, unhide HN (by rw [unhide HG, unhide HP, unhide HS])]; rfl, rfl⟩
        · have HS := hide (Hm.allB_end (p := Hm.hasD R n a) (n := a) (k := m) (by omega))
          go_wp2_with fail
          go_round
          case rel => exact ⟨a + 1, by omega, by go_num, by rw [unhide HQ, unhide HY (by rw [unhide HG, unhide HP, unhide HS])]⟩
          case measure => simp [intOf]; omega
    · have HS := hide (Hm.allB_end (p := Hm.hasRow R n) (n := n) (k := a) (by omega))
      go_wp2_with fail
      go_ret
      exact ⟨by rw [unhide HF, unhide HQ, unhide HS]; rfl, rfl⟩

end Go.Proofs.Ytfcflnnleadpkaa

namespace Go.Proofs.Ytfcflnnleadpkaa
open Go.RowKit

theorem LatM.c0 {w : World} {b n : Nat} {R : Nat → Nat → Bool} (h : LatM w b 0 n R) : w.cell? ⟨b, 2, none⟩ = some (.int .i64 (n : Int)) := by simpa using h.cnt
theorem LatM.b0 {w : World} {b n : Nat} {R : Nat → Nat → Bool} (h : LatM w b 0 n R) (i j : Nat) (hi : i < 8) (hj : j < 8) : w.cell? ⟨b, 3 + i * 8 + j, none⟩ = some (.bool (R i j)) := by simpa using h.bel i j hi hj
theorem latJ_lat {w : World} {b n : Nat} {e p : Int} {R : Nat → Nat → Bool} {J : Nat → Nat → Int} {z : Int} {t : TypeId} {fr : Nat × Nat} (h : w.heap[b]? = some (.cells (latJ e p n R J z) t fr)) : LatM w b 0 n R :=
  ⟨rowF_cell h (by omega), fun i j hi hj => by rw [show 0 + 3 + i * 8 + j = 3 + i * 8 + j by omega, rowF_cell h (by omega), latF_ij _ _ _ _ _ _ _ _ hi hj]⟩
theorem latC_lat {w : World} {b n : Nat} {e p : Int} {R : Nat → Nat → Bool} {t : TypeId} {fr : Nat × Nat} (h : w.heap[b]? = some (.cells (latC e p n R) t fr)) : LatM w b 0 n R := latJ_lat h
theorem lat_set {w : World} {b : Nat} {n e p : Int} {R S : Nat → Nat → Bool} {t : TypeId} {fr : Nat × Nat} (h : w.heap[b]? = some (.cells (latC e p n R) t fr)) {i j : Nat} {v : Bool} (hi : i < 8) (hj : j < 8)
    (hS : ∀ x y, x < 8 → y < 8 → updV R i j v x y = S x y) : w.setCell ⟨b, 3 + i * 8 + j, none⟩ (.bool v) = w.setRow b (latC e p n S) := by
  rw [setCell_eq_setRow w b _ _ t fr _ h, latC_set _ _ _ _ _ _ _ hi hj, latC_congr _ _ _ _ S hS]

set_option maxHeartbeats 1000000 in
set_option maxRecDepth 100000 in
theorem addSteps_any (w : World) (b n : Nat) (R : Nat → Nat → Bool) (t : TypeId) (hn : n ≤ 8) (hg : w.heap[b]? = some (.cells (latC 0 0 n R) t (0, 0))) :
    Calls Try.prog 50 #[.pointer (some ⟨b, 0, none⟩)] w fun e w' => e = .returned (.tuple #[]) ∧ w' = w.setRow b (latC 0 0 n (wf n R n)) := by
  have HG := hide (fun S : Nat → Nat → Bool => setRow_heap w b _ (latC 0 0 n S) t (0, 0) hg)
  have HC := hide (fun S : Nat → Nat → Bool => latC_lat (setRow_heap w b _ (latC 0 0 n S) t (0, 0) hg))
  have HZ := hide (fun (S : Nat → Nat → Bool) j => frozen_of_row (w.setRow b (latC 0 0 n S)) b j _ t (setRow_heap w b _ _ t (0, 0) hg))
  have HS := hide (show w = w.setRow b (latC 0 0 n (diagU R 0)) by
    rw [latC_congr 0 0 n (diagU R 0) R (fun i j _ _ => by simp [diagU]), setRow_self w b _ t (0, 0) hg])
  clear hg
  go_enter Try.func50, Try.ntmps50
  go_wp2_with fail
  go_loopw [2] (fun d wr => ∃ a : Nat, a ≤ n ∧ d = .int .i64 (a : Int) ∧ wr = w.setRow b (latC 0 0 n (diagU R a))) (fun d _ => n - (intOf d).toNat)
  case atStart => exact ⟨0, Nat.zero_le _, rfl, unhide HS⟩
  case round =>
    obtain ⟨a, ha, rfl, rfl⟩ := hrel
    have hc := (unhide HC (diagU R a)).c0
    by_cases hlt : a < n
    · have hb := (unhide HC (diagU R a)).b0 a a (by omega) (by omega)
      have hz := unhide HZ (diagU R a) (3 + a * 8 + a)
      have ha' : (a : Int) < 8 := by omega
      go_wp2_with fail
      go_roundw
      case rel => exact ⟨a + 1, by omega, by go_num, by rw [lat_set (unhide HG (diagU R a)) (by omega) (by omega) (fun x y _ _ => diagU_step R a x y), setRow_setRow]⟩
      case measure => simp [intOf]; omega
    · have ea : a = n := by omega
      subst ea
      go_wp2_with fail
      clear hc
      go_loopw [3] (fun d wr => ∃ k : Nat, k ≤ a ∧ d = .int .i64 (k : Int) ∧ wr = w.setRow b (latC 0 0 a (wf a R k))) (fun d _ => a - (intOf d).toNat)
      case atStart => exact ⟨0, Nat.zero_le _, rfl, rfl⟩
      case round =>
        obtain ⟨k, hk, rfl, rfl⟩ := hrel
        have hc := (unhide HC (wf a R k)).c0
        by_cases hlk : k < a
        · have hk' : (k : Int) < 8 := by omega
          have HK := hide (show wf a R (k + 1) = stp a (wf a R k) k a 0 from rfl)
          generalize wf a R k = S at *
          go_wp2_with fail
          clear hc
          go_loopw [4] (fun d wr => ∃ i : Nat, i ≤ a ∧ d = .int .i64 (i : Int) ∧ wr = w.setRow b (latC 0 0 a (stp a S k i 0))) (fun d _ => a - (intOf d).toNat)
          case atStart => exact ⟨0, Nat.zero_le _, rfl, by rw [stp_zero]⟩
          case round =>
            obtain ⟨i, hi, rfl, rfl⟩ := hrel
            have hc := (unhide HC (stp a S k i 0)).c0
            by_cases hli : i < a
            · have hi' : (i : Int) < 8 := by omega
              go_wp2_with fail
              clear hc
              go_loopw [5] (fun d wr => ∃ j : Nat, j ≤ a ∧ d = .int .i64 (j : Int) ∧ wr = w.setRow b (latC 0 0 a (stp a S k i j))) (fun d _ => a - (intOf d).toNat)
              case atStart => exact ⟨0, Nat.zero_le _, rfl, rfl⟩
              case round =>
                obtain ⟨j, hj, rfl, rfl⟩ := hrel
                have hc := (unhide HC (stp a S k i j)).c0
                by_cases hlj : j < a
                · have hj' : (j : Int) < 8 := by omega
                  have b1 := (unhide HC (stp a S k i j)).b0 i k (by omega) (by omega)
                  have b2 := (unhide HC (stp a S k i j)).b0 k j (by omega) (by omega)
                  have b3 := (unhide HC (stp a S k i j)).b0 i j (by omega) (by omega)
                  rw [stp_col] at b1
                  rw [stp_row] at b2
                  cases h1 : S i k
                  · rw [h1] at b1
                    have HN := hide (stp_no a S k i j (by simp [h1]))
                    go_wp2_with fail
                    go_roundw
                    case rel => exact ⟨j + 1, by omega, by go_num, by rw [unhide HN]⟩
                    case measure => simp [intOf]; omega
                  · rw [h1] at b1
                    cases h2 : S k j
                    · rw [h2] at b2
                      have HN := hide (stp_no a S k i j (by simp [h2]))
                      go_wp2_with fail
                      go_roundw
                      case rel => exact ⟨j + 1, by omega, by go_num, by rw [unhide HN]⟩
                      case measure => simp [intOf]; omega
                    · rw [h2] at b2
                      have hz := unhide HZ (stp a S k i j) (3 + i * 8 + j)
                      go_wp2_with fail
                      go_roundw
                      case rel => exact ⟨j + 1, by omega, by go_num, by rw [lat_set (unhide HG (stp a S k i j)) (by omega) (by omega) (fun x y _ _ => stp_set a S k i j hlj h1 h2 x y), setRow_setRow]⟩
                      case measure => simp [intOf]; omega
                · go_wp2_with fail
                  go_roundw
                  case rel => exact ⟨i + 1, by omega, by go_num, by rw [stp_next a S k i j (by omega)]⟩
                  case measure => simp [intOf]; omega
            · have ei : i = a := by omega
              subst ei
              go_wp2_with fail
              go_roundw
              case rel => exact ⟨k + 1, by omega, by go_num, by rw [unhide HK]⟩
              case measure => simp [intOf]; omega
        · have ek : k = a := by omega
          subst ek
          go_wp2_with fail
          go_end0
          exact ⟨rfl, rfl⟩

end Go.Proofs.Ytfcflnnleadpkaa

namespace Go.Proofs.Ytfcflnnleadpkaa
open Go.RowKit

set_option maxHeartbeats 400000 in
theorem isDigit_any (w : World) (c lim : Int) (h0 : 0 ≤ c) (h1 : c ≤ 255) :
    Calls Try.prog 95 #[.int .u8 c, .int .i64 lim] w fun e w' => e = .returned (.bool (isDB c lim)) ∧ w' = w := by
  by_cases a1 : 48 ≤ c
  · by_cases a2 : c ≤ 57
    · by_cases a3 : c - 48 < lim
      · have HF := hide (isDB_yes ⟨a1, a2, a3⟩)
        go_enter Try.func95, Try.ntmps95
        go_wp2_with fail
        go_ret
        exact ⟨by rw [unhide HF]; rfl, rfl⟩
      · have HF := hide (isDB_no (c := c) (lim := lim) (by omega))
        have a3' : decide (c - 48 < lim) = false := by simpa using a3
        go_enter Try.func95, Try.ntmps95
        go_wp2_with fail
        go_ret
        exact ⟨by rw [unhide HF]; rfl, rfl⟩
    · have HF := hide (isDB_no (c := c) (lim := lim) (by omega))
      have a2' : decide (c ≤ 57) = false := by simpa using a2
      go_enter Try.func95, Try.ntmps95
      go_wp2_with fail
      go_ret
      exact ⟨by rw [unhide HF]; rfl, rfl⟩
  · have HF := hide (isDB_no (c := c) (lim := lim) (by omega))
    have a1' : decide (48 ≤ c) = false := by simpa using a1
    go_enter Try.func95, Try.ntmps95
    go_wp2_with fail
    go_ret
    exact ⟨by rw [unhide HF]; rfl, rfl⟩

set_option maxHeartbeats 400000 in
theorem digitAt_any (w : World) (s : ByteArray) (k : Nat) (lim : Int) :
    Calls Try.prog 64 #[.string s, .int .i64 (k : Int), .int .i64 lim] w fun e w' => e = .returned (.tuple #[.int .i64 (digV s k lim), .bool (digB s k lim)]) ∧ w' = w := by
  have a0 : decide ((k : Int) < 0) = false := by simp
  by_cases hk : k < s.size
  · have hbq := bt_eq s k hk
    have ⟨hb0, hb1⟩ := bt_bd s k
    have HB := hide (digB_yes (lim := lim) hk)
    generalize hcc : bt s k = c at *
    have HCC := hide hcc
    clear hcc
    have a1 : decide ((s.size : Int) ≤ (k : Int)) = false := by simp; omega
    have hk' : (k : Int) < (s.size : Int) := by omega
    cases hd : isDB c lim
    · have HF := hide (show digV s k lim = 0 by unfold digV; rw [unhide HB, hd]; simp)
      go_enter Try.func64, Try.ntmps64
      go_wp2_with fail
      refine (isDigit_any _ _ _ hb0 hb1).mono ?_
      rintro e w' ⟨rfl, rfl⟩
      go_wp2_with fail
      go_ret2
      exact ⟨by rw [unhide HF, unhide HB, hd]; rfl, rfl⟩
    · have ⟨g1, g2, g3⟩ := (isDB_iff c lim).1 hd
      have HF := hide (show digV s k lim = c - 48 by unfold digV; rw [unhide HB, hd, unhide HCC]; simp)
      go_enter Try.func64, Try.ntmps64
      go_wp2_with fail
      refine (isDigit_any _ _ _ hb0 hb1).mono ?_
      rintro e w' ⟨rfl, rfl⟩
      go_wp2_with fail
      go_ret2
      exact ⟨by rw [unhide HF, unhide HB, hd]; rfl, rfl⟩
  · have HB := hide (digB_no (lim := lim) hk)
    have HF := hide (show digV s k lim = 0 by unfold digV; rw [unhide HB]; simp)
    have a1 : decide ((s.size : Int) ≤ (k : Int)) = true := by simp; omega
    go_enter Try.func64, Try.ntmps64
    go_wp2_with fail
    go_ret2
    exact ⟨by rw [unhide HF, unhide HB]; rfl, rfl⟩

theorem digitAt_int (w : World) (s : ByteArray) (a lim : Int) (k : Nat) (h : a = (k : Int)) :
    Calls Try.prog 64 #[.string s, .int .i64 a, .int .i64 lim] w fun e w' => e = .returned (.tuple #[.int .i64 (digV s k lim), .bool (digB s k lim)]) ∧ w' = w := by
  subst h; exact digitAt_any w s k lim

end Go.Proofs.Ytfcflnnleadpkaa

namespace Go.Proofs.Ytfcflnnleadpkaa
open Go.RowKit

theorem info_lat : (Try.prog.info? 76).map (fun i => (i.zero, i.size)) = some (some (.agg (latC 0 0 0 noT)), 132) := by kernel_rfl
theorem zero_lat : ∀ w, (zeroValue 76).run Try.prog w = .ok (.agg (latC 0 0 0 noT)) w := (zero_of_info info_lat).1
theorem size_lat : (Try.prog.info? 76).map (·.size) = some 132 := (zero_of_info info_lat).2

theorem store_arr {t : TypeId} {m : Nat} (hm : (Try.prog.info? t).map (·.size) = some m) (w : World) (g : Nat) (C C' : Array Value) (h1 : C.size = m) (h2 : C'.size = m) (ha : C'.all (·.oneCell') = true) (hg : w.heap[g]? = some (.cells C t (0, 0))) :
    Sem.run Try.prog (storeCells ⟨g, 0, none⟩ C'.toList) w = .ok () (w.setRow g C') := by
  have h := run_storeVar_row (P := Try.prog) w g t t _ C' hg (by rw [h2]; exact hm) (by rw [h1, h2]) ha
  cases hq : Try.prog.info? t with
  | none => simp [hq] at hm
  | some i =>
    have hs : i.size = m := by simpa [hq] using hm
    simpa [storeVar, sizeOf, typeInfo, hq, Value.cells, hs, h2] using h
theorem store_lat (w : World) (g : Nat) (e p n e' p' n' : Int) (R R' : Nat → Nat → Bool) (hg : w.heap[g]? = some (.cells (latC e p n R) 76 (0, 0))) :
    Sem.run Try.prog (storeCells ⟨g, 0, none⟩ (latC e' p' n' R').toList) w = .ok () (w.setRow g (latC e' p' n' R')) :=
  store_arr size_lat w g _ _ (latC_size _ _ _ _) (latC_size _ _ _ _) (latC_all _ _ _ _) hg
theorem store_latJ (w : World) (g : Nat) (e p n e' p' n' : Int) (R R' : Nat → Nat → Bool) (J : Nat → Nat → Int) (z : Int) (hg : w.heap[g]? = some (.cells (latC e p n R) 76 (0, 0))) :
    Sem.run Try.prog (storeCells ⟨g, 0, none⟩ (latJ e' p' n' R' J z).toList) w = .ok () (w.setRow g (latJ e' p' n' R' J z)) :=
  store_arr size_lat w g _ _ (latC_size _ _ _ _) (latJ_size _ _ _ _ _ _) (latJ_all _ _ _ _ _ _) hg
theorem ret_lat {fn : Func} {k : Tmp} (h : fn.results = #[.cell k 76]) (tmps : Array Value) (w : World) (g : Nat) (e p n : Int) (R : Nat → Nat → Bool)
    (hp : tmps.getD k undef = .pointer (some ⟨g, 0, none⟩)) (hg : w.heap[g]? = some (.cells (latC e p n R) 76 (0, 0))) :
    (results fn tmps).run Try.prog w = .ok (.agg (latC e p n R)) w :=
  results_cell_row h tmps w g _ _ _ _ hp hg Try.underlying76 rfl (by rw [latC_size]; exact size_lat)
theorem ret_latJ {fn : Func} {k : Tmp} (h : fn.results = #[.cell k 76]) (tmps : Array Value) (w : World) (g : Nat) (e p n : Int) (R : Nat → Nat → Bool) (J : Nat → Nat → Int) (z : Int)
    (hp : tmps.getD k undef = .pointer (some ⟨g, 0, none⟩)) (hg : w.heap[g]? = some (.cells (latJ e p n R J z) 76 (0, 0))) :
    (results fn tmps).run Try.prog w = .ok (.agg (latJ e p n R J z)) w :=
  results_cell_row h tmps w g _ _ _ _ hp hg Try.underlying76 rfl (by rw [latJ_size]; exact size_lat)

set_option maxHeartbeats 400000 in
set_option maxRecDepth 100000 in
theorem noOrder_any (w : World) (p : Int) :
    Calls Try.prog 65 #[.int .i64 p] w fun e w' => e = .returned (.agg (latC 2 p 0 noT)) ∧ Below w.heap.size w w' := by
  have hz := zero_lat
  have z0 := latC_size 0 0 0 noT
  have z1 := latC_size 2 0 0 noT
  have s0 := latC_set0 0 2 0 0 noT
  have s1 := latC_set1 2 0 p 0 noT
  have hst := store_lat (w.alloc (.cells (latC 0 0 0 noT) 76)) w.heap.size 0 0 0 2 p 0 noT noT (heap_alloc_last w _)
  rw [World.setRow_alloc_new] at hst
  go_enter Try.func65, Try.ntmps65
  go_wp2_with fail
  refine bodyPost_ret (v := .agg (latC 2 p 0 noT)) (ret_lat Try.results65 _ _ w.heap.size _ _ _ _ rfl (heap_alloc_last w _)) rfl ⟨rfl, ?_⟩
  exact (Below.refl _ _).alloc (Nat.le_refl _) _

end Go.Proofs.Ytfcflnnleadpkaa

namespace Go.Proofs.Ytfcflnnleadpkaa
open Go.RowKit

set_option maxHeartbeats 1000000 in
set_option maxRecDepth 100000 in
theorem readPairs_bad0 (w : World) (s : ByteArray) (h : ∀ n, ¬ FirstOk s n) :
    Calls Try.prog 49 #[.string s] w fun e w' => e = .returned (.agg (latC 2 0 0 noT)) ∧ Below w.heap.size w w' := by
  have hz := zero_lat
  have HB := hide (heap_alloc_last w (.cells (latC 0 0 0 noT) 76))
  cases hd : digB s 0 9
  · go_enter Try.func49, Try.ntmps49
    go_wp2_with fail
    refine (digitAt_int _ _ _ _ 0 rfl).mono ?_
    rintro e w' ⟨rfl, rfl⟩
    go_wp2_with fail
    refine (noOrder_any _ _).mono ?_
    rintro e w1 ⟨rfl, hb⟩
    have hg1 := (hb.block w.heap.size (by simp)).trans (unhide HB)
    have hst := store_lat w1 w.heap.size 0 0 0 2 0 0 noT noT hg1
    have HG := hide hg1
    clear hg1
    go_wp2_with fail
    refine bodyPost_ret (v := .agg (latC 2 0 0 noT)) (ret_lat Try.results49 _ _ w.heap.size _ _ _ _ rfl (setRow_heap _ _ _ _ _ _ (unhide HG))) rfl ⟨rfl, ?_⟩
    exact below_setRow (((Below.refl _ _).alloc (Nat.le_refl _) _).trans (hb.mono (by simp))) (Nat.le_refl _) _
  · have HD := hide hd
    have hd0 : digV s 0 9 = 0 := by
      have h1 := digV_bd (n := 9) hd
      obtain ⟨i, h1, h2, h3, h4⟩ := h1
      rcases Nat.eq_zero_or_pos i with e | e
      · have : digV s 0 ((9 : Nat) : Int) = digV s 0 9 := rfl
        rw [← this, h1, e]; rfl
      · exact absurd ⟨hd, h1, e, by omega⟩ (h i)
    have he : (digV s 0 9 == 0) = true := by rw [hd0]; rfl
    clear hd0
    go_enter Try.func49, Try.ntmps49
    go_wp2_with fail
    refine (digitAt_int _ _ _ _ 0 rfl).mono ?_
    rintro e w' ⟨rfl, rfl⟩
    go_wp2_with fail
    refine (noOrder_any _ _).mono ?_
    rintro e w1 ⟨rfl, hb⟩
    have hg1 := (hb.block w.heap.size (by simp)).trans (unhide HB)
    have hst := store_lat w1 w.heap.size 0 0 0 2 0 0 noT noT hg1
    have HG := hide hg1
    clear hg1
    go_wp2_with fail
    refine bodyPost_ret (v := .agg (latC 2 0 0 noT)) (ret_lat Try.results49 _ _ w.heap.size _ _ _ _ rfl (setRow_heap _ _ _ _ _ _ (unhide HG))) rfl ⟨rfl, ?_⟩
    exact below_setRow (((Below.refl _ _).alloc (Nat.le_refl _) _).trans (hb.mono (by simp))) (Nat.le_refl _) _

/-- What reading the pairs comes to. -/
def PairsPost (s : ByteArray) (n : Nat) (e : Ending) : Prop :=
  (∃ k : Nat, BadAt s k ∧ e = .returned (.agg (latC 2 k 0 noT))) ∨ (GoodOrd s n ∧ e = .returned (.agg (latC 0 0 n (pairsTo s n (s.size / 2)))))

set_option maxHeartbeats 2000000 in
set_option maxRecDepth 100000 in
theorem readPairs_ok (w : World) (s : ByteArray) (n : Nat) (h : FirstOk s n) (hsz : s.size ≤ 65) :
    Calls Try.prog 49 #[.string s] w fun e w' => PairsPost s n e ∧ Below w.heap.size w w' := by
  have hz := zero_lat
  have HO := hide h
  obtain ⟨hd, hv, h1, h8⟩ := h
  have hv9 : digV s 0 9 = (n : Int) := hv
  have hn0 : (((n : Int)) == 0) = false := by simp; omega
  have z0 := latC_size 0 0 0 noT
  have z1 := latC_size 0 0 n noT
  have s0 := latC_set2 0 0 0 n noT
  have hst := store_lat ((w.alloc (.cells (latC 0 0 0 noT) 76)).alloc (.cells (latC 0 0 0 noT) 76)) (w.heap.size + 1) 0 0 0 0 0 n noT noT (by have := heap_alloc_last (w.alloc (.cells (latC 0 0 0 noT) 76)) (.cells (latC 0 0 0 noT) 76); simpa using this)
  rw [show w.heap.size + 1 = (w.alloc (.cells (latC 0 0 0 noT) 76)).heap.size by simp, World.setRow_alloc_new] at hst
  rw [show (w.alloc (.cells (latC 0 0 0 noT) 76)).heap.size = w.heap.size + 1 by simp] at hst
  have HS1 : Hid (1 ≤ s.size) := by
    obtain ⟨i, g1, g2, g3, g4⟩ := digV_bd (n := 9) hd
    exact hide g4
  go_enter Try.func49, Try.ntmps49
  go_wp2_with fail
  refine (digitAt_int _ _ _ _ 0 rfl).mono ?_
  rintro e w' ⟨rfl, rfl⟩
  go_wp2_with fail
  clear hst s0 z1 hv9 hv hd hn0
  go_loopw [6] (fun d wr => ∃ k m : Nat, k = 2 * m + 1 ∧ k ≤ s.size ∧ (∀ i, 1 ≤ i → i < k → digB s i n = true) ∧ d = .int .i64 (k : Int) ∧ wr = (w.alloc (.cells (latC 0 0 0 noT) 76)).alloc (.cells (latC 0 0 n (pairsTo s n m)) 76)) (fun d _ => s.size - (intOf d).toNat)
  case atStart => exact ⟨1, 0, rfl, unhide HS1, fun i h1 h2 => by omega, rfl, rfl⟩
  case round =>
    obtain ⟨k, m, hkm, hks, hall, rfl, rfl⟩ := hrel
    have HK := hide hkm
    have HA := hide hall
    clear hkm hall
    by_cases hlt : k < s.size
    · have hlt' : (k : Int) < (s.size : Int) := by omega
      cases hd1 : digB s k n
      · have HBad : Hid (BadAt s k) := Or.inr ⟨n, unhide HO, by have := unhide HK; omega, by omega, unhide HA, hd1, fun e => absurd e (by omega)⟩
        have HB := hide (heap_alloc_last w (.cells (latC 0 0 0 noT) 76))
        go_wp2_with fail
        refine (digitAt_int _ _ _ _ k rfl).mono ?_
        rintro e w' ⟨rfl, rfl⟩
        go_wp2_with fail
        refine (noOrder_any _ _).mono ?_
        rintro e w1 ⟨rfl, hb⟩
        have hg1 := (hb.block w.heap.size (by simp <;> omega)).trans ((heap_alloc_old _ _ (by simp)).trans (unhide HB))
        have hst := store_lat w1 w.heap.size 0 0 0 2 k 0 noT noT hg1
        have HG := hide hg1
        clear hg1
        go_wp2_with fail
        refine bodyPost_ret (v := .agg (latC 2 k 0 noT)) (ret_lat Try.results49 _ _ w.heap.size _ _ _ _ rfl (setRow_heap _ _ _ _ _ _ (unhide HG))) rfl ⟨Or.inl ⟨k, unhide HBad, rfl⟩, ?_⟩
        exact below_setRow ((((Below.refl _ _).alloc (Nat.le_refl _) _).alloc (by simp) _).trans (hb.mono (by simp <;> omega))) (Nat.le_refl _) _
      · cases hd2 : digB s (k + 1) n
        · have HBad : Hid (BadAt s (k + 1)) := Or.inr ⟨n, unhide HO, by omega, by omega, fun i h1 h2 => by
            by_cases e : i = k
            · rw [e]; exact hd1
            · exact unhide HA i h1 (by omega), hd2, fun e => by have := unhide HK; omega⟩
          have HB := hide (heap_alloc_last w (.cells (latC 0 0 0 noT) 76))
          go_wp2_with fail
          refine (digitAt_int _ _ _ _ k rfl).mono ?_
          rintro e w' ⟨rfl, rfl⟩
          go_wp2_with fail
          refine (digitAt_int _ _ _ _ (k + 1) (by omega)).mono ?_
          rintro e w' ⟨rfl, rfl⟩
          go_wp2_with fail
          refine (noOrder_any _ _).mono ?_
          rintro e w1 ⟨rfl, hb⟩
          have hg1 := (hb.block w.heap.size (by simp <;> omega)).trans ((heap_alloc_old _ _ (by simp)).trans (unhide HB))
          have hst := store_lat w1 w.heap.size 0 0 0 2 ((k : Int) + 1) 0 noT noT hg1
          have HG := hide hg1
          clear hg1
          go_wp2_with fail
          refine bodyPost_ret (v := .agg (latC 2 ((k : Int) + 1) 0 noT)) (ret_lat Try.results49 _ _ w.heap.size _ _ _ _ rfl (setRow_heap _ _ _ _ _ _ (unhide HG))) rfl ⟨Or.inl ⟨k + 1, unhide HBad, by rw [show ((k + 1 : Nat) : Int) = (k : Int) + 1 by omega]⟩, ?_⟩
          exact below_setRow ((((Below.refl _ _).alloc (Nat.le_refl _) _).alloc (by simp) _).trans (hb.mono (by simp <;> omega))) (Nat.le_refl _) _
        · obtain ⟨i, hv1, hi, -, -⟩ := digV_bd hd1
          obtain ⟨j, hv2, hj, -, hk1⟩ := digV_bd hd2
          have hi' : (i : Int) < 8 := by omega
          have hj' : (j : Int) < 8 := by omega
          have HP : Hid (latC 0 0 n (updV (pairsTo s n m) i j true) = latC 0 0 n (pairsTo s n (m + 1))) := by
            have e1 : pairsTo s n (m + 1) = updV (pairsTo s n m) i j true := by
              have e2 := unhide HK
              show updV (pairsTo s n m) (digV s (2 * m + 1) n).toNat (digV s (2 * m + 2) n).toNat true = _
              rw [show 2 * m + 1 = k by omega, show 2 * m + 2 = k + 1 by omega, hv1, hv2]
              rfl
            exact hide (by rw [e1])
          have hc := latC_ij 0 0 n (pairsTo s n m) i j (by omega) (by omega)
          have hset := latC_set 0 0 n (pairsTo s n m) i j true (by omega) (by omega)
          have hz1 := latC_size 0 0 n (pairsTo s n m)
          go_wp2_with fail
          refine (digitAt_int _ _ _ _ k rfl).mono ?_
          rintro e w' ⟨rfl, rfl⟩
          go_wp2_with fail
          refine (digitAt_int _ _ _ _ (k + 1) (by omega)).mono ?_
          rintro e w' ⟨rfl, rfl⟩
          go_wp2_with fail
          go_roundw
          case rel => exact ⟨k + 2, m + 1, by have := unhide HK; omega, by omega, fun x h1 h2 => by
            by_cases e : x = k
            · rw [e]; exact hd1
            · by_cases e' : x = k + 1
              · rw [e']; exact hd2
              · exact unhide HA x h1 (by omega), by go_num, by rw [unhide HP]⟩
          case measure => simp [intOf]; omega
    · have hks' : k = s.size := by omega
      have HGood : Hid (GoodOrd s n) := ⟨unhide HO, by have := unhide HK; omega, fun i h1 h2 => unhide HA i h1 (by omega)⟩
      have HM : Hid (m = s.size / 2) := by have := unhide HK; exact hide (by omega)
      have g0 : ((w.alloc (.cells (latC 0 0 0 noT) 76)).alloc (.cells (latC 0 0 n (pairsTo s n m)) 76)).heap[w.heap.size]? = some (.cells (latC 0 0 0 noT) 76) :=
        (heap_alloc_old _ _ (by simp)).trans (heap_alloc_last w _)
      have g1 : ((w.alloc (.cells (latC 0 0 0 noT) 76)).alloc (.cells (latC 0 0 n (pairsTo s n m)) 76)).heap[w.heap.size + 1]? = some (.cells (latC 0 0 n (pairsTo s n m)) 76) := by
        have := heap_alloc_last (w.alloc (.cells (latC 0 0 0 noT) 76)) (.cells (latC 0 0 n (pairsTo s n m)) 76); simpa using this
      clear hks'
      have hst := store_lat _ _ 0 0 0 0 0 n noT (pairsTo s n m) g0
      have HG := hide g0
      have HG1 := hide g1
      clear g0 g1
      go_wp2_with (refine wpList_load_row rfl 76 _ rfl (w.heap.size + 1) rfl 76 _ (0, 0) _ (unhide HG1) Try.underlying76 rfl (by rw [latC_size]; exact size_lat) ?_)
      refine bodyPost_ret (v := .agg (latC 0 0 n (pairsTo s n m))) (ret_lat Try.results49 _ _ w.heap.size _ _ _ _ rfl (setRow_heap _ _ _ _ _ _ (unhide HG))) rfl ⟨Or.inr ⟨unhide HGood, by rw [← unhide HM]⟩, ?_⟩
      exact below_setRow (((Below.refl _ _).alloc (Nat.le_refl _) _).alloc (by simp) _) (Nat.le_refl _) _

end Go.Proofs.Ytfcflnnleadpkaa

namespace Go.Proofs.Ytfcflnnleadpkaa
open Go.RowKit

/-- What 'turned' has behind a rounds, and b of the next. -/
def trn (n : Nat) (R : Nat → Nat → Bool) (a b : Nat) : Nat → Nat → Bool := fun i j => if j < a ∨ (j = a ∧ i < b) then (if i < n then R j i else false) else false

theorem trn_zero (n : Nat) (R : Nat → Nat → Bool) : trn n R 0 0 = noT := by
  funext i j; unfold trn noT; rw [if_neg (by omega)]
theorem trn_step (n : Nat) (R : Nat → Nat → Bool) (a b : Nat) (hb : b < n) (x y : Nat) : updV (trn n R a b) b a (R a b) x y = trn n R a (b + 1) x y := by
  unfold updV trn
  by_cases e1 : x = b
  · by_cases e2 : y = a
    · subst e1; subst e2
      rw [if_pos (by simp), if_pos (by omega), if_pos hb]
    · have h : (x == b && y == a) = false := by simp [e2]
      rw [h]
      by_cases c : y < a ∨ (y = a ∧ x < b)
      · rw [if_pos c, if_pos (show y < a ∨ (y = a ∧ x < b + 1) by omega)]; rfl
      · rw [if_neg c, if_neg (show ¬ (y < a ∨ (y = a ∧ x < b + 1)) by omega)]; rfl
  · have h : (x == b && y == a) = false := by simp [e1]
    rw [h]
    by_cases c : y < a ∨ (y = a ∧ x < b)
    · rw [if_pos c, if_pos (show y < a ∨ (y = a ∧ x < b + 1) by omega)]; rfl
    · rw [if_neg c, if_neg (show ¬ (y < a ∨ (y = a ∧ x < b + 1)) by omega)]; rfl
theorem trn_next (n : Nat) (R : Nat → Nat → Bool) (a b : Nat) (hb : n ≤ b) : trn n R (a + 1) 0 = trn n R a b := by
  funext x y
  unfold trn
  by_cases hx : x < n
  · by_cases c : y < a ∨ (y = a ∧ x < b)
    · rw [if_pos c, if_pos (show y < a + 1 ∨ (y = a + 1 ∧ x < 0) by omega)]
    · rw [if_neg c, if_neg (show ¬ (y < a + 1 ∨ (y = a + 1 ∧ x < 0)) by omega)]
  · rw [if_neg hx]; split <;> split <;> rfl

theorem below_drewN' {B : Nat} {a w : World} (h : Below B a w) (q : Nat) : Below B a (w.drewN q) := ⟨h.os, h.tape, h.output, h.size, h.block⟩
theorem set_top {w : World} {A : Obj} {C C' : Array Value} {T : TypeId} {q off : Nat} {v : Value} (hC : C.setIfInBounds off v = C') :
    (((w.alloc A).alloc (.cells C T)).drewN q).setCell ⟨w.heap.size + 1, off, none⟩ v = ((w.alloc A).alloc (.cells C' T)).drewN q := by
  have h1 : ((w.alloc A).alloc (.cells C T)).heap[w.heap.size + 1]? = some (.cells C T (0, 0)) := by
    have := heap_alloc_last (w.alloc A) (.cells C T); simpa using this
  have h2 : (((w.alloc A).alloc (.cells C T)).drewN q).setCell ⟨w.heap.size + 1, off, none⟩ v = (((w.alloc A).alloc (.cells C T)).setCell ⟨w.heap.size + 1, off, none⟩ v).drewN q := rfl
  rw [h2, setCell_eq_setRow _ _ _ _ _ _ _ h1, hC]
  have h3 : w.heap.size + 1 = (w.alloc A).heap.size := by simp
  rw [h3, World.setRow_alloc_new]

set_option maxHeartbeats 2000000 in
set_option maxRecDepth 100000 in
theorem turned_any (w : World) (b n : Nat) (R : Nat → Nat → Bool) (hn : n ≤ 8) (hl : LatM w b 0 n R) :
    Calls Try.prog 68 #[.pointer (some ⟨b, 0, none⟩)] w fun e w' => e = .returned (.agg (latC 0 0 n (trn n R n 0))) ∧ Below w.heap.size w w' := by
  have hz := zero_lat
  have hc := hl.c0
  have hbz : b < w.heap.size := by
    have := block_lt_of_cell hc
    exact this
  have z0 := latC_size 0 0 0 noT
  have z1 := latC_size 0 0 n noT
  have s0 := latC_set2 0 0 0 n noT
  have hst := store_lat ((w.alloc (.cells (latC 0 0 0 noT) 76)).alloc (.cells (latC 0 0 0 noT) 76)) (w.heap.size + 1) 0 0 0 0 0 n noT noT (by have := heap_alloc_last (w.alloc (.cells (latC 0 0 0 noT) 76)) (.cells (latC 0 0 0 noT) 76); simpa using this)
  rw [show w.heap.size + 1 = (w.alloc (.cells (latC 0 0 0 noT) 76)).heap.size by simp, World.setRow_alloc_new] at hst
  rw [show (w.alloc (.cells (latC 0 0 0 noT) 76)).heap.size = w.heap.size + 1 by simp] at hst
  go_enter Try.func68, Try.ntmps68
  go_wp2_with fail
  clear hst s0 z1 hc
  have HL := hide hl
  clear hl
  have HS0 := hide (show (w.alloc (.cells (latC 0 0 0 noT) 76)).alloc (.cells (latC 0 0 n noT) 76) = ((w.alloc (.cells (latC 0 0 0 noT) 76)).alloc (.cells (latC 0 0 n (trn n R 0 0)) 76)).drewN 0 by rw [trn_zero]; rfl)
  go_loopw [4] (fun d wr => ∃ a q : Nat, a ≤ n ∧ d = .int .i64 (a : Int) ∧ wr = ((w.alloc (.cells (latC 0 0 0 noT) 76)).alloc (.cells (latC 0 0 n (trn n R a 0)) 76)).drewN q) (fun d _ => n - (intOf d).toNat)
  case atStart => exact ⟨0, 0, Nat.zero_le _, rfl, unhide HS0⟩
  case round =>
    obtain ⟨a, q, ha, rfl, rfl⟩ := hrel
    have hc := (unhide HL).c0
    by_cases hlt : a < n
    · have ha' : (a : Int) < 8 := by omega
      go_wp2_with fail
      go_loopw [5] (fun d wr => ∃ m q : Nat, m ≤ n ∧ d = .int .i64 (m : Int) ∧ wr = ((w.alloc (.cells (latC 0 0 0 noT) 76)).alloc (.cells (latC 0 0 n (trn n R a m)) 76)).drewN q) (fun d _ => n - (intOf d).toNat)
      case atStart => exact ⟨0, q, Nat.zero_le _, rfl, rfl⟩
      case round =>
        obtain ⟨m, q, hm, rfl, rfl⟩ := hrel
        by_cases hlm : m < n
        · have hm' : (m : Int) < 8 := by omega
          have hb1 := (unhide HL).b0 a m (by omega) (by omega)
          have hcc := latC_ij 0 0 n (trn n R a m) m a (by omega) (by omega)
          have hset := latC_set 0 0 n (trn n R a m) m a (R a m) (by omega) (by omega)
          have hz1 := latC_size 0 0 n (trn n R a m)
          go_wp2_with fail
          go_region
          go_wp2_with fail
          go_roundw
          case rel => exact ⟨m + 1, q + 1, by omega, by go_num, by rw [set_top (hC := hset), latC_congr 0 0 n _ _ (fun x y _ _ => trn_step n R a m hlm x y)]⟩
          case measure => simp [intOf]; omega
        · go_wp2_with fail
          go_roundw
          case rel => exact ⟨a + 1, q, by omega, by go_num, by rw [trn_next n R a m (by omega)]⟩
          case measure => simp [intOf]; omega
    · have ea : a = n := by omega
      subst ea
      have g0 : (((w.alloc (.cells (latC 0 0 0 noT) 76)).alloc (.cells (latC 0 0 a (trn a R a 0)) 76)).drewN q).heap[w.heap.size]? = some (.cells (latC 0 0 0 noT) 76) :=
        (heap_alloc_old _ _ (by simp)).trans (heap_alloc_last w _)
      have g1 : (((w.alloc (.cells (latC 0 0 0 noT) 76)).alloc (.cells (latC 0 0 a (trn a R a 0)) 76)).drewN q).heap[w.heap.size + 1]? = some (.cells (latC 0 0 a (trn a R a 0)) 76) := by
        have := heap_alloc_last (w.alloc (.cells (latC 0 0 0 noT) 76)) (.cells (latC 0 0 a (trn a R a 0)) 76); simpa using this
      have hst := store_lat _ _ 0 0 0 0 0 a noT (trn a R a 0) g0
      have HG := hide g0
      have HG1 := hide g1
      clear g0 g1
      go_wp2_with (refine wpList_load_row rfl 76 _ rfl (w.heap.size + 1) rfl 76 _ (0, 0) _ (unhide HG1) Try.underlying76 rfl (by rw [latC_size]; exact size_lat) ?_)
      refine bodyPost_ret (v := .agg (latC 0 0 a (trn a R a 0))) (ret_lat Try.results68 _ _ w.heap.size _ _ _ _ rfl (setRow_heap _ _ _ _ _ _ (unhide HG))) rfl ⟨rfl, ?_⟩
      exact below_setRow (below_drewN' (((Below.refl _ _).alloc (Nat.le_refl _) _).alloc (by simp) _) _) (Nat.le_refl _) _

end Go.Proofs.Ytfcflnnleadpkaa
