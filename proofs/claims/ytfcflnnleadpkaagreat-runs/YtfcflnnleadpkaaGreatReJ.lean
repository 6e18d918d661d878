import Derived.Test.YtfcflnnleadpkaaGreatMaJ
import Derived.Test.YtfcflnnleadpkaaGreatSgJ
import Derived.Deep.OwnRows
import Derived.Deep.RegionWith
import Derived.BigRegion
import Derived.RegionTactic
import Derived.ChangeAlike
namespace Go.Proofs.YtfcflnnleadpkaaGreat
open Go.RowKit

theorem info_rows : (Tryz.prog.info? 109).map (fun i => (i.zero, i.size, i.bytes)) = some (some (.slice none 0 0), 1, 24) := by kernel_rfl
theorem info_bool : (Tryz.prog.info? 4).map (fun i => (i.zero, i.size, i.bytes)) = some (some (.bool false), 1, 1) := by kernel_rfl

/-- i rows of a table, each in a block of its own, from B on. -/
structure Rws (w : World) (B n i : Nat) (rb : Nat → Nat) (F : Nat → Nat → Bool) : Prop where
  row : ∀ j, j < i → B ≤ rb j ∧ w.rowIs (rb j) 4 n (fun x => .bool (F j x))
  inj : ∀ j k, j < i → k < i → rb j = rb k → j = k

def rowV (rb : Nat → Nat) (n : Nat) (j : Nat) : Value := .slice (some ⟨rb j, 0, none⟩) n n
def rowL (rb : Nat → Nat) (n i : Nat) : List Value := (List.range i).map (rowV rb n)
def idT : Nat → Nat → Bool := fun i j => i == j

theorem rowL_succ (rb : Nat → Nat) (n i r : Nat) : rowL rb n i ++ [.slice (some ⟨r, 0, none⟩) n n] = rowL (fun j => if j = i then r else rb j) n (i + 1) := by
  unfold rowL
  rw [List.range_succ, List.map_append]
  congr 1
  · apply List.map_congr_left
    intro j hj
    have : j < i := List.mem_range.1 hj
    unfold rowV
    simp only [if_neg (show ¬ j = i by omega)]
  · simp [rowV]
/-- A round of the first loop: the new row's blocks, and what append does. -/
theorem Rws.push {w wr w1 : World} {n i : Nat} {rb : Nat → Nat} {v : Value} (hr : Rws wr w.heap.size n i rb idT) (hi : i < n) (hsz : w.heap.size ≤ wr.heap.size)
    (hown : wr.ownsRow w.heap.size 109 1 v i (rowL rb n i))
    (hg : ((wr.alloc (.cells ((madeCells #[.bool false] n).setIfInBounds i (.bool true)) 4)).alloc (.cells #[.slice (some ⟨wr.heap.size, 0, none⟩) n n] 109)).grownBy w1 v.ownBlock) :
    Rws w1 w.heap.size n (i + 1) (fun j => if j = i then wr.heap.size else rb j) idT := by
  have hnew : (wr.alloc (.cells ((madeCells #[.bool false] n).setIfInBounds i (.bool true)) 4)).rowIs wr.heap.size 4 n (fun x => .bool (idT i x)) := by
    have h := World.rowIs_alloc wr ((madeCells #[.bool false] n).setIfInBounds i (.bool true)) 4 (fun x => .bool (idT i x)) (fun x hx => by
      have hx' : x < n := by simpa [size_madeCells] using hx
      rw [Array.getElem?_setIfInBounds]
      by_cases e : i = x
      · subst e; simp [size_madeCells, hi, idT]
      · have e' : (i == x) = false := by simp [e]
        rw [if_neg e]; simp [madeCells, hx', Nat.mod_one, idT, e'])
    simpa [size_madeCells] using h
  have keep : ∀ (b : Nat) (f : Nat → Value), ((wr.alloc (.cells ((madeCells #[.bool false] n).setIfInBounds i (.bool true)) 4)).alloc (.cells #[.slice (some ⟨wr.heap.size, 0, none⟩) n n] 109)).rowIs b 4 n f → w1.rowIs b 4 n f := by
    intro b f hb
    refine hb.of_block (hg.block b hb.lt ?_)
    intro e
    have h2 := ((hown.alloc (.cells ((madeCells #[.bool false] n).setIfInBounds i (.bool true)) 4)).alloc (.cells #[.slice (some ⟨wr.heap.size, 0, none⟩) n n] 109)).2
    rcases h2 with ⟨rfl, _⟩ | ⟨g, cap, cur, rfl, _, hgg, _⟩
    · simp [Value.ownBlock] at e
    · simp only [Value.ownBlock, Option.some.injEq] at e
      obtain ⟨c, hc, _⟩ := hb
      rw [e, hgg] at hc
      simp at hc
  refine ⟨fun j hj => ?_, fun j k hj hk e => ?_⟩
  · by_cases e : j = i
    · subst e
      simp only [if_pos]
      exact ⟨hsz, keep _ _ (hnew.alloc _)⟩
    · simp only [if_neg e]
      obtain ⟨h1, h2⟩ := hr.row j (by omega)
      exact ⟨h1, keep _ _ ((h2.alloc _).alloc _)⟩
  · have hlt : ∀ j, j < i → rb j < wr.heap.size := fun j hj => (hr.row j hj).2.lt
    by_cases e1 : j = i
    · by_cases e2 : k = i
      · omega
      · simp only [if_pos e1, if_neg e2] at e
        have := hlt k (by omega); omega
    · by_cases e2 : k = i
      · simp only [if_neg e1, if_pos e2] at e
        have := hlt j (by omega); omega
      · simp only [if_neg e1, if_neg e2] at e
        exact hr.inj j k (by omega) (by omega) e

/-- The whole table in memory. -/
structure Grid (w : World) (B g n : Nat) (rb : Nat → Nat) (F : Nat → Nat → Bool) : Prop where
  out : ∀ j, j < n → w.cell? ⟨g, j, none⟩ = some (.slice (some ⟨rb j, 0, none⟩) n n)
  typ : ∃ cur, w.heap[g]? = some (.cells cur 109 (0, 0))
  row : ∀ j, j < n → B ≤ rb j ∧ w.rowIs (rb j) 4 n (fun x => .bool (F j x))
  inj : ∀ j k, j < n → k < n → rb j = rb k → j = k

theorem Grid.of {w : World} {B n : Nat} {rb : Nat → Nat} {F : Nat → Nat → Bool} {v : Value} (h1 : 1 ≤ n) (ho : w.ownsRow B 109 1 v n (rowL rb n n)) (hr : Rws w B n n rb F) :
    ∃ g cap, v = .slice (some ⟨g, 0, none⟩) n cap ∧ Grid w B g n rb F := by
  rcases ho.2 with ⟨_, e⟩ | ⟨g, cap, cur, rfl, hb, hg, hn, hc, hs, ht⟩
  · omega
  · refine ⟨g, cap, rfl, fun j hj => ?_, ⟨cur, hg⟩, hr.row, hr.inj⟩
    rw [cell_of_row w g j cur _ _ hg]
    have h2 : (rowL rb n n)[j]? = some (rowV rb n j) := by simp [rowL, hj]
    rw [← ht, List.getElem?_take, if_pos (by omega)] at h2
    simpa [rowV] using h2
theorem Grid.cell {w : World} {B g n : Nat} {rb : Nat → Nat} {F : Nat → Nat → Bool} (h : Grid w B g n rb F) {a b : Nat} (ha : a < n) (hb : b < n) : w.cell? ⟨rb a, b, none⟩ = some (.bool (F a b)) := (h.row a ha).2.cell hb
theorem Grid.froz {w : World} {B g n : Nat} {rb : Nat → Nat} {F : Nat → Nat → Bool} (h : Grid w B g n rb F) {a : Nat} (ha : a < n) (b : Nat) : w.frozen? ⟨rb a, b, none⟩ = false := (h.row a ha).2.frozen b
theorem Grid.ne {w : World} {B g n : Nat} {rb : Nat → Nat} {F : Nat → Nat → Bool} (h : Grid w B g n rb F) {a : Nat} (ha : a < n) : g ≠ rb a := by
  intro e
  obtain ⟨cur, hc⟩ := h.typ
  obtain ⟨c, hc2, _⟩ := (h.row a ha).2
  rw [← e, hc] at hc2
  simp at hc2
theorem Grid.set {w : World} {B g n : Nat} {rb : Nat → Nat} {F : Nat → Nat → Bool} (h : Grid w B g n rb F) {a b : Nat} (ha : a < n) : Grid (w.setCell ⟨rb a, b, none⟩ (.bool true)) B g n rb (updV F a b true) := by
  have hne := h.ne ha
  refine ⟨fun j hj => ?_, ?_, fun j hj => ?_, h.inj⟩
  · rw [World.cell?_of_block (w := w) (Below.heap_setCell w _ _ _ hne)]; exact h.out j hj
  · obtain ⟨cur, hc⟩ := h.typ
    exact ⟨cur, (Below.heap_setCell w _ _ _ hne).trans hc⟩
  · obtain ⟨h1, h2⟩ := h.row j hj
    refine ⟨h1, ?_⟩
    by_cases e : j = a
    · subst e
      refine (h2.set b (.bool true)).congr (fun x _ => ?_)
      unfold updV
      by_cases e' : x = b
      · simp [e']
      · simp [e']
    · refine (h2.setOther (fun e' => e (h.inj j a hj ha e')) _).congr (fun x _ => ?_)
      have : (j == a && x == b) = false := by simp [e]
      unfold updV; rw [this]; rfl
theorem Grid.drewN {w : World} {B g n q : Nat} {rb : Nat → Nat} {F : Nat → Nat → Bool} (h : Grid w B g n rb F) : Grid (w.drewN q) B g n rb F := ⟨h.out, h.typ, h.row, h.inj⟩
theorem Grid.congr {w : World} {B g n : Nat} {rb : Nat → Nat} {F G : Nat → Nat → Bool} (h : Grid w B g n rb F) (e : Hm.Same n F G) : Grid w B g n rb G :=
  ⟨h.out, h.typ, fun j hj => ⟨(h.row j hj).1, (h.row j hj).2.congr (fun x hx => by rw [e j x hj hx])⟩, h.inj⟩

theorem idx_at (s : ByteArray) (k : Nat) (i c : Int) (hi : i = (k : Int)) (hk : k < s.size) (hc : bt s k = c) (w : World) :
    (Instr.index 9 (.string s) (.int .i64 i)).run Tryz.prog w = .ok (.int .u8 c) w := by
  subst hi
  have h := run_index_string (P := Tryz.prog) (w := w) 9 s .i64 (k : Int) Tryz.underlying9
  rw [h]
  have h0 := bt_eq s k hk
  simp [hk, h0, hc]

theorem wrap_i64_id (x : Int) (h0 : 0 ≤ x) (h1 : x ≤ 1000000) : IntKind.i64.wrap x = x := by
  rw [IntKind.wrap_i64]; omega

/-- The table of the first m pairs, over that of the levels themselves. -/
def refP (s : ByteArray) (n : Nat) : Nat → Nat → Nat → Bool
  | 0 => idT
  | m + 1 => updV (refP s n m) (digV s (2 * m + 1) n).toNat (digV s (2 * m + 2) n).toNat true
theorem refP_eq (s : ByteArray) (n m : Nat) (i j : Nat) : refP s n m i j = (i == j || pairsTo s n m i j) := by
  induction m with
  | zero => simp [refP, pairsTo, idT, noT]
  | succ m ih =>
    simp only [refP, pairsTo, updV]
    split
    · simp
    · exact ih

theorem refP_step {s : ByteArray} {n k m a b : Nat} (hk : k = 2 * m + 1) (h : digV s k n = (a : Int) ∧ digV s (k + 1) n = (b : Int)) : refP s n (m + 1) = updV (refP s n m) a b true := by
  simp only [refP]
  rw [show 2 * m + 1 = k by omega, show 2 * m + 2 = k + 1 by omega, h.1, h.2]
  rfl
theorem Grid.drew1 {w : World} {B g n : Nat} {rb : Nat → Nat} {F : Nat → Nat → Bool} (h : Grid w B g n rb F) : Grid w.drew B g n rb F := ⟨h.out, h.typ, h.row, h.inj⟩
theorem RInv_start (s : ByteArray) (n : Nat) : RInv n (refP s n (s.size / 2)) (cl s n) 0 (refP s n (s.size / 2)) := by
  refine ⟨fun a b _ _ h => h, fun a b ha hb h => ?_, Or.inr (Nat.zero_le _)⟩
  rw [refP_eq] at h
  simp only [Bool.or_eq_true, beq_iff_eq] at h
  rcases h with h | h
  · subst h; exact wf_refl n _ n a ha
  · exact wf_sub n _ n a b ha hb h
theorem RInv.start' {n r : Nat} {base top F0 : Nat → Nat → Bool} (h : RInv n base top r F0) : RndI n base top F0 0 0 0 F0 := RndI.start h
theorem RInv.same' {s : ByteArray} {n r N : Nat} {base top F : Nat → Nat → Bool} (h : RInv n base top r F) (hN : N = n * n) (hr : N ≤ r) (hb : refP s n (s.size / 2) = base) (ht : cl s n = top) : Hm.Same n F top := by
  subst hb; subst ht; subst hN
  refine RInv.same (P := pairsTo s n (s.size / 2)) h hr (fun i _ => ?_) (fun a b _ _ hh => ?_)
  · rw [refP_eq]; simp
  · rw [refP_eq, hh]; simp

set_option maxHeartbeats 4000000 in
set_option maxRecDepth 10000 in
theorem closed_any (w : World) (s : ByteArray) (n : Nat) (h1 : 1 ≤ n) (h8 : n ≤ 8) (hs : s.size ≤ 65) (hgo : GoodOrd s n) :
    Calls Tryz.prog 25 #[.string s, .int .i64 (n : Int)] w fun e w' => (∃ g cap rb, e = .returned (.slice (some ⟨g, 0, none⟩) n cap) ∧ Grid w' w.heap.size g n rb (cl s n)) ∧ Below w.heap.size w w' := by
  have hmk := run_make_row' (P := Tryz.prog) 109 4 (.bool false) 1 Tryz.underlying109 info_bool rfl .i64 .i64 n (by omega) (by omega)
  have HGO := hide hgo
  clear hgo
  go_enter Tryz.func25, Tryz.ntmps25
  go_wp2_with fail
  go_loopw [5, 6] (fun v d wr => ∃ (i : Nat) (rb : Nat → Nat), i ≤ n ∧ d = .int .i64 (i : Int) ∧ wr.ownsRow w.heap.size 109 1 v i (rowL rb n i) ∧ Rws wr w.heap.size n i rb idT ∧ Below w.heap.size w wr) (fun _ d _ => n - (intOf d).toNat)
  case atStart => exact ⟨0, fun _ => 0, Nat.zero_le _, rfl, World.ownsRow_nil _ _ _ _, ⟨fun j h => by omega, fun j k h => by omega⟩, Below.refl _ _⟩
  case round =>
    obtain ⟨i, rb, hi, rfl, hown, hrw, hbel⟩ := hrel
    by_cases hlt : i < n
    · have HO := hide hown
      have HR := hide hrw
      clear hown hrw
      have hsz := size_madeCells #[Value.bool false] n
      obtain ⟨i0, hi0, hz0, hz1, hz2⟩ := info_parts info_rows
      have HI := hide (And.intro hi0 (And.intro hz0 (And.intro hz1 hz2)))
      clear hi0 hz0 hz1 hz2
      have hws := hbel.size
      go_wp2_with (at_builtin; refine wpList_append_own _ rfl _ _ 75 rfl w.heap.size 109 i0 (.slice none 0 0) 1 24 Tryz.underlying75 (unhide HI).1 (unhide HI).2.1 (unhide HI).2.2.1 (unhide HI).2.2.2 rfl (by decide) _ _ _ rfl (((unhide HO).alloc _).alloc _) ⟨wr.heap.size + 1, 0, none⟩ 1 1 [.slice (some ⟨wr.heap.size, 0, none⟩) n n] rfl rfl ?c1 ?c2 ?c3 ?c4 ?c5 ?_)
      case c1 =>
        intro j u hj
        match j, hj with
        | 0, hj => simp at hj; subst hj; simp [Addr.add]
      case c2 => intro u hu; simp at hu; subst hu; rfl
      case c3 => unfold maxLen; omega
      case c4 => omega
      case c5 => simp; omega
      intro v' w1 hown' hgrow _
      rw [rowL_succ] at hown'
      have R1 := Rws.push (unhide HR) hlt hws (unhide HO) hgrow
      have HO1 := hide hown'
      have HR1 := hide R1
      have HB1 : Hid (Below w.heap.size w w1) := Below.grown ((hbel.alloc hws _).alloc (by simp; omega) _) hgrow (by simp; omega) (fun k hk => ((unhide HO).lt k hk).1)
      clear hown' R1 hgrow
      go_wp2_with fail
      go_roundw
      case rel => exact ⟨i + 1, _, by omega, by go_num, unhide HO1, unhide HR1, unhide HB1⟩
      case measure => simp [intOf]; omega
    · have ei : i = n := by omega
      subst ei
      obtain ⟨g, cap, rfl, hgr⟩ := Grid.of h1 hown hrw
      have HGR := hide hgr
      have HBL := hide hbel
      clear hown hrw hgr hbel hmk
      go_wp2_with fail
      go_loopw [8] (fun d wr => ∃ k m : Nat, k = 2 * m + 1 ∧ k ≤ s.size ∧ d = .int .i64 (k : Int) ∧ Grid wr w.heap.size g i rb (refP s i m) ∧ Below w.heap.size w wr) (fun d _ => s.size - (intOf d).toNat)
      case atStart => exact ⟨1, 0, rfl, by have := (unhide HGO).2.1; omega, rfl, unhide HGR, unhide HBL⟩
      case round =>
        obtain ⟨k, m, hkm, hks, rfl, hgr, hbel⟩ := hrel
        have HK := hide hkm
        clear hkm
        by_cases hlk : k + 1 < s.size
        · obtain ⟨a, hv1, hia, hb1, -⟩ := digV_bd ((unhide HGO).2.2 k (by have := unhide HK; omega) (by omega))
          obtain ⟨b, hv2, hib, hb2, -⟩ := digV_bd ((unhide HGO).2.2 (k + 1) (by omega) (by omega))
          have hc1 := (bt_eq s k (by omega)).trans hb1
          have hc2 := (bt_eq s (k + 1) (by omega)).trans hb2
          have q5 : (0 : Int) ≤ (k : Int) + 1 := by omega
          have d1 := dgt_pos ((unhide HGO).2.2 k (by have := unhide HK; omega) (by omega))
          have d2 := dgt_pos ((unhide HGO).2.2 (k + 1) (by omega) (by omega))
          rw [hv1] at d1
          rw [hv2] at d2
          rw [hb1] at d1
          rw [hb2] at d2
          have hlk' : (k : Int) + 1 < (s.size : Int) := by omega
          have hlk2 : (k : Int) < (s.size : Int) := by omega
          have o1 := hgr.out a hia
          have o2 := hgr.cell hia hib
          have o3 := hgr.froz hia b
          have HV := hide (And.intro hv1 hv2)
          clear hv1 hv2 hb1 hb2
          have q1 : (0 : Int) ≤ 48 + (a : Int) := by omega
          have q2 : 48 + (a : Int) ≤ 255 := by omega
          have q3 : (0 : Int) ≤ 48 + (b : Int) := by omega
          have q4 : 48 + (b : Int) ≤ 255 := by omega
          have hwr : IntKind.i64.wrap ((k : Int) + 1) = (k : Int) + 1 := wrap_i64_id _ (by omega) (by omega)
          go_wp2_with fail
          have HGR1 := hide (And.intro (hgr.set (b := b) hia) (refP_step (unhide HK) (unhide HV)))
          have HBL1 := hide (hbel.setCell (hgr.row a hia).1 (.bool true) (p := ⟨rb a, b, none⟩))
          clear hgr hbel
          go_region_with (go_at_call 29; refine (digit_any _ _ _ (by assumption) (by assumption)).mono ?_; rintro e w' ⟨rfl, rfl⟩)
          all_goals
            go_wp2_with fail
            go_roundw
            case rel => exact ⟨k + 2, m + 1, by have := unhide HK; omega, by omega, by go_num, by rw [(unhide HGR1).2]; exact ((unhide HGR1).1 : Grid _ w.heap.size g i rb (updV (refP s i m) a b true)).drew1, (unhide HBL1).drew⟩
            case measure => simp [intOf]; omega
        · have HM := hide (show m = s.size / 2 by have := unhide HK; have := (unhide HGO).2.1; omega)
          have hlk' : ¬ ((k : Int) + 1 < (s.size : Int)) := by omega
          obtain ⟨N, hN⟩ : ∃ N : Nat, N = i * i := ⟨_, rfl⟩
          have hN8 : N ≤ 64 := by rw [hN]; exact Nat.mul_le_mul h8 h8
          have hmul : (i : Int) * (i : Int) = (N : Int) := by rw [hN]; simp
          have hwm : IntKind.i64.wrap (N : Int) = (N : Int) := wrap_i64_id _ (by omega) (by omega)
          have HN := hide hN
          have HGR1 := hide hgr
          have HBL1 := hide hbel
          have HT := hide (wf_trans i (pairsTo s i (s.size / 2)))
          have HR0 := hide (RInv_start s i)
          rw [unhide HM] at HGR1
          generalize hbase : refP s i (s.size / 2) = base at *
          generalize htop : cl s i = top at *
          have HTop := hide htop
          have HBase := hide hbase
          clear hN hgr hbel hbase htop
          go_wp2_with fail
          go_loopw [9] (fun d wr => ∃ (r : Nat) (F : Nat → Nat → Bool), r ≤ N ∧ d = .int .i64 (r : Int) ∧ Grid wr w.heap.size g i rb F ∧ RInv i base top r F ∧ Below w.heap.size w wr) (fun d _ => N - (intOf d).toNat)
          case atStart => exact ⟨0, base, Nat.zero_le _, rfl, unhide HGR1, unhide HR0, unhide HBL1⟩
          case round =>
            obtain ⟨r, F0, hr, rfl, hgr0, hri, hbel0⟩ := hrel
            have HGR2 := hide hgr0
            have HRI := hide hri
            have HBL2 := hide hbel0
            clear hgr0 hri hbel0
            by_cases hlr : r < N
            · go_wp2_with fail
              go_loopw [10] (fun d wr => ∃ (x : Nat) (F : Nat → Nat → Bool), x ≤ i ∧ d = .int .i64 (x : Int) ∧ Grid wr w.heap.size g i rb F ∧ RndI i base top F0 x 0 0 F ∧ Below w.heap.size w wr) (fun d _ => i - (intOf d).toNat)
              case atStart => exact ⟨0, F0, Nat.zero_le _, rfl, unhide HGR2, (unhide HRI).start', unhide HBL2⟩
              case round =>
                obtain ⟨x, F1, hx, rfl, hgr1, hr1, hbel1⟩ := hrel
                have HGR3 := hide hgr1
                have HR3 := hide hr1
                have HBL3 := hide hbel1
                clear hgr1 hr1 hbel1
                by_cases hlx : x < i
                · go_wp2_with fail
                  go_loopw [11] (fun d wr => ∃ (y : Nat) (F : Nat → Nat → Bool), y ≤ i ∧ d = .int .i64 (y : Int) ∧ Grid wr w.heap.size g i rb F ∧ RndI i base top F0 x y 0 F ∧ Below w.heap.size w wr) (fun d _ => i - (intOf d).toNat)
                  case atStart => exact ⟨0, F1, Nat.zero_le _, rfl, unhide HGR3, unhide HR3, unhide HBL3⟩
                  case round =>
                    obtain ⟨y, F2, hy, rfl, hgr2, hr2, hbel2⟩ := hrel
                    have HGR4 := hide hgr2
                    have HR4 := hide hr2
                    have HBL4 := hide hbel2
                    clear hgr2 hr2 hbel2
                    by_cases hly : y < i
                    · go_wp2_with fail
                      go_loopw [12] (fun d wr => ∃ (z : Nat) (F : Nat → Nat → Bool), z ≤ i ∧ d = .int .i64 (z : Int) ∧ Grid wr w.heap.size g i rb F ∧ RndI i base top F0 x y z F ∧ Below w.heap.size w wr) (fun d _ => i - (intOf d).toNat)
                      case atStart => exact ⟨0, F2, Nat.zero_le _, rfl, unhide HGR4, unhide HR4, unhide HBL4⟩
                      case round =>
                        obtain ⟨z, F, hz, rfl, hgr, hrr, hbel⟩ := hrel
                        have HGR5 := hide hgr
                        have HR5 := hide hrr
                        have HBL5 := hide hbel
                        clear hrr hbel
                        by_cases hlz : z < i
                        · have o1 := hgr.out x hlx
                          have o2 := hgr.out y hly
                          have o3 := hgr.cell hlx hly
                          have o4 := hgr.cell hly hlz
                          have o5 := hgr.cell hlx hlz
                          have o6 := hgr.froz hlx z
                          clear hgr
                          cases e1 : F x y
                          · rw [e1] at o3
                            have HF := hide ((unhide HR5).no hlx hly hlz (by rw [e1]; rfl))
                            go_wp2_with fail
                            go_roundw
                            case rel => exact ⟨z + 1, F, by omega, by go_num, unhide HGR5, unhide HF, unhide HBL5⟩
                            case measure => simp [intOf]; omega
                          · rw [e1] at o3
                            cases e2 : F y z
                            · rw [e2] at o4
                              have HF := hide ((unhide HR5).no hlx hly hlz (by rw [e2]; simp))
                              go_wp2_with fail
                              go_roundw
                              case rel => exact ⟨z + 1, F, by omega, by go_num, unhide HGR5, unhide HF, unhide HBL5⟩
                              case measure => simp [intOf]; omega
                            · rw [e2] at o4
                              have HF := hide ((unhide HR5).yes (by rw [← unhide HTop]; exact unhide HT) hlx hly hlz e1 e2)
                              go_wp2_with fail
                              go_roundw
                              case rel => exact ⟨z + 1, _, by omega, by go_num, (unhide HGR5).set hlx, unhide HF, (unhide HBL5).setCell ((unhide HGR5).row x hlx).1 _⟩
                              case measure => simp [intOf]; omega
                        · clear hgr
                          go_wp2_with fail
                          go_roundw
                          case rel => exact ⟨y + 1, F, by omega, by go_num, unhide HGR5, (unhide HR5).nextJ (by omega), unhide HBL5⟩
                          case measure => simp [intOf]; omega
                    · go_wp2_with fail
                      go_roundw
                      case rel => exact ⟨x + 1, F2, by omega, by go_num, unhide HGR4, (unhide HR4).nextI (by omega), unhide HBL4⟩
                      case measure => simp [intOf]; omega
                · go_wp2_with fail
                  go_roundw
                  case rel => exact ⟨r + 1, F1, by omega, by go_num, unhide HGR3, (unhide HR3).done (unhide HRI) (by omega), unhide HBL3⟩
                  case measure => simp [intOf]; omega
            · have HSame := hide ((unhide HRI).same' (unhide HN) (by omega) (unhide HBase) (unhide HTop))
              go_wp2_with fail
              go_ret
              exact ⟨⟨g, cap, rb, rfl, by rw [unhide HTop]; exact (unhide HGR2).congr (unhide HSame)⟩, unhide HBL2⟩

end Go.Proofs.YtfcflnnleadpkaaGreat
