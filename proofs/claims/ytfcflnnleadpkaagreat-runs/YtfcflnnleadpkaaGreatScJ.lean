import Derived.Test.YtfcflnnleadpkaaGreatMaJ
import Derived.Deep.RegionLaw
import Derived.Deep.AppendLies
import Derived.OwnWalk
namespace Go.Proofs.YtfcflnnleadpkaaGreat
open Go.RowKit

def cells (C : List Nat) : List Value := C.map (fun (k : Nat) => Value.int .i64 (k : Int))
/-- A Scan in memory, with the list of its calls, which lies in memory of its own, from B on. -/
structure ScnC (w : World) (B b : Nat) (s : ByteArray) (i : Nat) (bad : Bool) (N nv : Nat) (C : List Nat) (v : Value) : Prop where
  sc : Scn w b s i bad N nv v
  own : w.ownsRow B 3 1 v C.length (cells C)
/-- All blocks but b and r are as they were. -/
structure Kp (b : Nat) (r : Option Nat) (w w' : World) : Prop where
  os : w'.os = w.os
  tape : w'.tape = w.tape
  output : w'.output = w.output
  size : w.heap.size ≤ w'.heap.size
  block : ∀ k, k < w.heap.size → k ≠ b → some k ≠ r → w'.heap[k]? = w.heap[k]?
/-- The new row is the old one, or new. -/
def NewOr (w : World) (v v' : Value) : Prop := v'.ownBlock = v.ownBlock ∨ ∀ k, v'.ownBlock = some k → w.heap.size ≤ k
/-- What the reader of a statement leaves. -/
def SSt (w : World) (B b : Nat) (s : ByteArray) (N nv : Nat) (v : Value) (r : Nat × Bool × List Nat) (w' : World) : Prop :=
  ∃ v', ScnC w' B b s r.1 r.2.1 N nv r.2.2 v' ∧ Kp b v.ownBlock w w' ∧ NewOr w v v'

variable {w w' w'' : World} {B b : Nat} {s : ByteArray} {i : Nat} {bad : Bool} {N nv : Nat} {C : List Nat} {v v' : Value}

theorem Kp.refl (b : Nat) (r : Option Nat) (w : World) : Kp b r w w := ⟨rfl, rfl, rfl, Nat.le_refl _, fun _ _ _ _ => rfl⟩
theorem Kp.trans {r r' : Option Nat} (h : Kp b r w w') (k : Kp b r' w' w'') (hr : r' = r ∨ ∀ k, r' = some k → w.heap.size ≤ k) : Kp b r w w'' :=
  ⟨k.os.trans h.os, k.tape.trans h.tape, k.output.trans h.output, Nat.le_trans h.size k.size, fun j hj h1 h2 => by
    rw [k.block j (Nat.lt_of_lt_of_le hj h.size) h1 ?_, h.block j hj h1 h2]
    rcases hr with e | e
    · rw [e]; exact h2
    · intro e'; have := e j e'.symm; omega⟩
theorem Kp.below {r : Option Nat} (h : Kp b r w w') (hB : B ≤ w.heap.size) (hb : B ≤ b) (hr : ∀ k, r = some k → B ≤ k) : Below B w w' :=
  ⟨h.os, h.tape, h.output, h.size, fun k hk => h.block k (by omega) (by omega) (fun e => by have := hr k e.symm; omega)⟩
theorem SSt.step {r' : Nat × Bool × List Nat} (h2 : Kp b v.ownBlock w w') (h3 : NewOr w v v') (k : SSt w' B b s N nv v' r' w'') : SSt w B b s N nv v r' w'' := by
  obtain ⟨v2, k1, k2, k3⟩ := k
  refine ⟨v2, k1, h2.trans k2 h3, ?_⟩
  rcases k3 with e | e
  · rcases h3 with e' | e'
    · exact Or.inl (e.trans e')
    · exact Or.inr (fun k hk => e' k (e ▸ hk))
  · exact Or.inr (fun k hk => Nat.le_trans h2.size (e k hk))
theorem ScnC.ne (h : ScnC w B b s i bad N nv C v) : v.ownBlock ≠ some b := by
  intro e
  rcases h.own.2 with ⟨rfl, _⟩ | ⟨g, cap, cur, rfl, _, hg, _⟩
  · simp [Value.ownBlock] at e
  · simp only [Value.ownBlock, Option.some.injEq] at e
    have h2 : w.heap[b]? = _ := h.sc
    rw [e, h2] at hg
    simp at hg
theorem Kp.setRow (w : World) (b : Nat) (r : Option Nat) (c : Array Value) (q : Nat) : Kp b r w ((w.setRow b c).drewN q) :=
  ⟨rfl, rfl, rfl, by simp, fun k _ h _ => setRow_other w b k c h⟩
/-- A reader that only turns the Scan. -/
theorem ScTo.sst {r : Nat × Bool} (h : ScTo w b s N nv v r w') (hc : ScnC w B b s i bad N nv C v) : SSt w B b s N nv v (r.1, r.2, C) w' := by
  obtain ⟨q, rfl⟩ := h
  refine ⟨v, ⟨hc.sc.row r.1 r.2 v, ?_⟩, Kp.setRow w b _ _ q, Or.inl rfl⟩
  have hg : w.grownBy ((w.setRow b (scC s r.1 r.2 N nv v)).drewN q) (some b) := ⟨rfl, rfl, rfl, by simp, fun k _ hk => setRow_other w b k _ (fun e => hk (by rw [e]))⟩
  refine hc.own.kept hg ?_
  exact Or.inr hc.ne

/-- The reader of statements, with fuel f. -/
def StmtOk (B b : Nat) (s : ByteArray) (N nv f : Nat) : Prop := ∀ (w : World) (i : Nat) (C : List Nat) (v : Value), ScnC w B b s i false N nv C v → s.size < i + f → i ≤ s.size → B ≤ w.heap.size → C.length ≤ i →
    Calls Tryz.prog 28 #[.pointer (some ⟨b, 0, none⟩)] w fun e w' => e = .returned (.tuple #[]) ∧ SSt w B b s N nv v (scS (bt s) nv N f i C) w'

set_option maxHeartbeats 1000000 in
set_option maxRecDepth 10000 in
theorem rest_plain (d : Int) (hd : d = 46 ∨ d = 120) (h : ScnC w B b s i false N nv C v) :
    Calls Tryz.prog 62 #[.pointer (some ⟨b, 0, none⟩), .int .u8 d] w fun e w' => e = .returned (.tuple #[]) ∧ SSt w B b s N nv v (i, false, C) w' := by
  have k2 := h.sc.c2
  have HR := hide (show SSt w B b s N nv v (i, false, C) w from ⟨v, h, Kp.refl _ _ _, Or.inl rfl⟩)
  clear h
  rcases hd with rfl | rfl
  · go_enter Tryz.func62, Tryz.ntmps62
    go_wp2_with fail
    go_end0
    exact ⟨rfl, unhide HR⟩
  · go_enter Tryz.func62, Tryz.ntmps62
    go_wp2_with fail
    go_end0
    exact ⟨rfl, unhide HR⟩

theorem info_int : (Tryz.prog.info? 3).map (fun i => (i.zero, i.size, i.bytes)) = some (some (.int .i64 0), 1, 8) := by kernel_rfl

theorem Scn.set5 (h : Scn w b s i bad N nv v) (x : Value) : w.setCell ⟨b, 5, none⟩ x = w.setRow b (scC s i bad N nv x) := by
  rw [setCell_eq_setRow w b _ _ _ _ _ h]; rfl
theorem cells_snoc (C : List Nat) (i : Nat) : cells C ++ [.int .i64 (i : Int)] = cells (C ++ [i]) := by simp [cells]
/-- One call more in the list. -/
theorem ScnC.push {w1 : World} {gg cap : Nat} (h : ScnC w B b s i false N nv C v) (hbl : b < w.heap.size)
    (hown1 : w1.ownsRow B 3 1 (.slice (some ⟨gg, 0, none⟩) (C.length + 1) cap) (C.length + 1) (cells C ++ [.int .i64 (i : Int)]))
    (hgrow : (w.alloc (.cells #[.int .i64 (i : Int)] 3)).drew.grownBy w1 v.ownBlock) (hat : v.ownBlock = some gg ∨ gg = w.heap.size + 1) :
    SSt w B b s N nv v (i, false, C ++ [i]) (w1.setCell ⟨b, 5, none⟩ (.slice (some ⟨gg, 0, none⟩) (C.length + 1) cap)) := by
  have hsz : (w.alloc (.cells #[.int .i64 (i : Int)] 3)).drew.heap.size = w.heap.size + 1 := by simp
  have hb1 : ∀ k, k < w.heap.size → some k ≠ v.ownBlock → w1.heap[k]? = w.heap[k]? := fun k hk hne =>
    (hgrow.block k (by omega) hne).trans (Below.heap_alloc w _ k hk)
  have hs1 : Scn w1 b s i false N nv v := (hb1 b hbl (Ne.symm h.ne)).trans h.sc
  have hgb : gg ≠ b := by
    intro e
    rcases hown1.2 with ⟨e1, _⟩ | ⟨g, cp, cur, e1, _, hg, _⟩
    · simp at e1
    · simp at e1
      have h2 : w1.heap[b]? = _ := hs1
      rw [← e1.1, e, h2] at hg
      simp at hg
  rw [hs1.set5]
  have hg2 : w1.grownBy (w1.setRow b (scC s i false N nv (.slice (some ⟨gg, 0, none⟩) (C.length + 1) cap))) (some b) := ⟨rfl, rfl, rfl, by simp, fun k _ hk => setRow_other w1 b k _ (fun e => hk (by rw [e]))⟩
  refine ⟨_, ⟨hs1.row i false _, ?_⟩, ?_, ?_⟩
  · have h3 := hown1.kept hg2 (Or.inr (by simp [Value.ownBlock, hgb]))
    rw [cells_snoc] at h3
    simpa using h3
  · exact ⟨hgrow.os, hgrow.tape, hgrow.output, by have := hgrow.size; simp at this ⊢; omega, fun k hk h1 h2 => (setRow_other w1 b k _ h1).trans (hb1 k hk h2)⟩
  · rcases hat with e | e
    · exact Or.inl (by rw [e]; rfl)
    · exact Or.inr (fun k hk => by simp [Value.ownBlock] at hk; omega)
set_option maxHeartbeats 1000000 in
set_option maxRecDepth 10000 in
theorem rest_c (hB : B ≤ w.heap.size) (hi : i ≤ 400) (hC : C.length ≤ 400) (h : ScnC w B b s i false N nv C v) :
    Calls Tryz.prog 62 #[.pointer (some ⟨b, 0, none⟩), .int .u8 99] w fun e w' => e = .returned (.tuple #[]) ∧ SSt w B b s N nv v ((dgS (bt s) 4 i).1, (dgS (bt s) 4 i).2, C ++ [i]) w' := by
  have k5 := h.sc.c5
  have k1 := h.sc.c1
  have kz := h.sc.fz 5
  have hne := h.ne
  have HH := hide h
  have hbl : b < w.heap.size := World.block_lt_of_cell? w _ k1
  have hca := fun o => (World.cell?_of_block (w := w) (a := ⟨b, 5, none⟩) (Below.heap_alloc w o b hbl)).trans k5
  have hca1 := fun o => (World.cell?_of_block (w := w) (a := ⟨b, 1, none⟩) (Below.heap_alloc w o b hbl)).trans k1
  have hfa := fun o => (World.frozen?_of_block (w := w) (a := ⟨b, 5, none⟩) (Below.heap_alloc w o b hbl)).trans kz
  obtain ⟨i0, hi0, hz0, hz1, hz2⟩ := info_parts info_int
  have HI := hide (And.intro hi0 (And.intro hz0 (And.intro hz1 hz2)))
  clear hi0 hz0 hz1 hz2 h
  go_enter Tryz.func62, Tryz.ntmps62
  go_wp2_with fail
  go_region_law ((refine step_append_lies _ (by rfl) _ _ _ (by rfl) B 3 i0 _ 1 8 Tryz.underlying50 (unhide HI).1 (unhide HI).2.1 (unhide HI).2.2.1 (unhide HI).2.2.2 rfl (by omega) v C.length (cells C) (by rfl) (((unhide HH).own.alloc _).drew) ⟨w.heap.size, 0, none⟩ 1 1 [.int .i64 (i : Int)] (by rfl) (by rfl) (World.news_of_block (cs := #[.int .i64 (i : Int)]) (t := 3) (fr := (0, 0)) (heap_alloc_new w _)) (by simp [Value.oneCell']) (by omega) (by unfold maxLen; omega) (by omega) (by simp; omega) (w.heap.size + 1) (by simp) ?_; intro gg cap w1 hown1 hgrow hat hlt; have hc5 := (hgrow.cell_far ⟨b, 5, none⟩ (by simp; omega) (Ne.symm hne)).trans (hca _); have hf5 := (hgrow.frozen_far ⟨b, 5, none⟩ (by simp; omega) (Ne.symm hne)).trans (hfa _)))
  all_goals
    have HT := hide ((unhide HH).push hbl hown1 hgrow hat)
    generalize w1.setCell ⟨b, 5, none⟩ (.slice (some ⟨gg, 0, none⟩) (C.length + 1) cap) = w2 at *
    obtain ⟨v2, hv2, hkp, hno⟩ := unhide HT
    have HV2 := hide hv2
    have HS := hide (fun (r' : Nat × Bool × List Nat) (w'' : World) (k : SSt w2 B b s N nv v2 r' w'') => SSt.step hkp hno k)
    clear hv2 hkp hno HT hown1 hgrow hat hc5 hf5 hlt k5 k1 kz hca hca1 hfa
    go_wp2_with fail
    refine (scanDigit_any 4 (unhide HV2).sc hi).mono ?_
    rintro e w3 ⟨rfl, hto⟩
    have HR := hide (unhide HS _ _ (hto.sst (unhide HV2)))
    have hsc := (hto.scn (unhide HV2).sc)
    have k2 := hsc.c2
    clear hto hsc
    cases hr : (dgS (bt s) 4 i).2
    · rw [hr] at k2
      go_wp2_with fail
      go_end0
      exact ⟨rfl, unhide HR⟩
    · rw [hr] at k2
      go_wp2_with fail
      go_end0
      exact ⟨rfl, unhide HR⟩

end Go.Proofs.YtfcflnnleadpkaaGreat

namespace Go.Proofs.YtfcflnnleadpkaaGreat
open Go.RowKit

/-- Where the reader stands: ahead of the end; it has not gone back; the calls are no more than the bytes. -/
def Good (s : ByteArray) (i : Nat) (r : Nat × Bool × List Nat) : Prop := i ≤ r.1 ∧ r.1 ≤ s.size ∧ r.2.2.length ≤ r.1
theorem Good.mono {s : ByteArray} {i j : Nat} {r : Nat × Bool × List Nat} (h : Good s j r) (hij : i ≤ j) : Good s i r := ⟨by have := h.1; omega, h.2⟩
theorem thenS_good {s : ByteArray} {i : Nat} {r : Nat × Bool × List Nat} {g : Nat → List Nat → Nat × Bool × List Nat} (h : Good s i r) (k : Good s r.1 (g r.1 r.2.2)) : Good s i (thenS r g) := by
  unfold thenS; split
  · exact h
  · exact k.mono h.1
theorem thenE_good {s : ByteArray} {i : Nat} {e : Nat × Bool} {C : List Nat} {g : Nat → Nat × Bool × List Nat} (h1 : i ≤ e.1) (h2 : e.1 ≤ s.size) (h3 : C.length ≤ e.1) (k : Good s e.1 (g e.1)) : Good s i (thenE e C g) := by
  unfold thenE; split
  · exact ⟨h1, h2, h3⟩
  · exact k.mono h1
theorem scS_good (s : ByteArray) (nv N f : Nat) : ∀ (i : Nat) (C : List Nat), i ≤ s.size → C.length ≤ i → Good s i (scS (bt s) nv N f i C) := by
  induction f with
  | zero => intro i C h1 h2; exact ⟨Nat.le_refl _, h1, h2⟩
  | succ f ih =>
    intro i C h1 h2
    have hE : ∀ j, i ≤ j → j ≤ s.size → i ≤ (scE (bt s) nv f j).1 ∧ (scE (bt s) nv f j).1 ≤ s.size ∧ C.length ≤ (scE (bt s) nv f j).1 := fun j hj1 hj2 =>
      ⟨Nat.le_trans hj1 (scE_le _ _ _ _), scE_sz s nv f j hj2, by have := scE_le (bt s) nv f j; omega⟩
    have hS : ∀ j D, j ≤ s.size → D.length ≤ j → Good s j (thenS (scS (bt s) nv N f j D) (scS (bt s) nv N f)) := fun j D hj hD =>
      thenS_good (ih j D hj hD) (ih _ _ (ih j D hj hD).2.1 (ih j D hj hD).2.2)
    have hlt : ∀ x : Int, x ≠ 0 → bt s i = x → i < s.size := fun x hx e => bt_lt (by rw [e]; exact hx)
    simp only [scS]
    by_cases c1 : bt s i = 46 ∨ bt s i = 120
    · rw [if_pos c1]
      have : i < s.size := by rcases c1 with c | c; exact hlt _ (by omega) c; exact hlt _ (by omega) c
      exact ⟨by simp, this, by simp; omega⟩
    rw [if_neg c1]
    by_cases c2 : bt s i = 44 ∨ bt s i = 116
    · rw [if_pos c2]
      have : i < s.size := by rcases c2 with c | c; exact hlt _ (by omega) c; exact hlt _ (by omega) c
      exact (hS (i + 1) C this (by omega)).mono (by omega)
    rw [if_neg c2]
    by_cases c3 : bt s i = 61
    · rw [if_pos c3]
      have hi := hlt _ (by omega) c3
      cases hv : isVar nv (bt s (i + 1))
      · exact ⟨by simp, hi, by simp; omega⟩
      · have h3 := isVar_lt hv
        have e := hE (i + 2) (by omega) (by omega)
        exact thenE_good (g := fun j => (j, false, C)) e.1 e.2.1 e.2.2 ⟨Nat.le_refl _, e.2.1, e.2.2⟩
    rw [if_neg c3]
    by_cases c4 : bt s i = 105
    · rw [if_pos c4]
      have hi := hlt _ (by omega) c4
      have e := hE (i + 1) (by omega) (by omega)
      exact thenE_good e.1 e.2.1 e.2.2 (hS _ C e.2.1 e.2.2)
    rw [if_neg c4]
    by_cases c5 : bt s i = 119
    · rw [if_pos c5]
      have hi := hlt _ (by omega) c5
      have e := hE (i + 1) (by omega) (by omega)
      exact thenE_good e.1 e.2.1 e.2.2 (ih _ C e.2.1 e.2.2)
    rw [if_neg c5]
    by_cases c6 : bt s i = 114
    · rw [if_pos c6]
      have hi := hlt _ (by omega) c6
      cases hd : isDB (bt s (i + 1)) N
      · exact ⟨by simp, hi, by simp; omega⟩
      · have h3 := isDB_lt hd
        cases hv : isVar nv (bt s (i + 2))
        · exact ⟨by simp, by simp; omega, by simp; omega⟩
        · have h4 := isVar_lt hv
          exact ⟨by simp, by simp; omega, by simp; omega⟩
    rw [if_neg c6]
    by_cases c7 : bt s i = 111
    · rw [if_pos c7]
      have hi := hlt _ (by omega) c7
      cases hd : isDB (bt s (i + 1)) N
      · exact ⟨by simp, hi, by simp; omega⟩
      · have h3 := isDB_lt hd
        have e := hE (i + 2) (by omega) (by omega)
        exact thenE_good (g := fun j => (j, false, C)) e.1 e.2.1 e.2.2 ⟨Nat.le_refl _, e.2.1, e.2.2⟩
    rw [if_neg c7]
    by_cases c8 : bt s i = 99
    · rw [if_pos c8]
      have hi := hlt _ (by omega) c8
      cases hd : isDB (bt s (i + 1)) 4
      · exact ⟨by simp, hi, by simp; omega⟩
      · have h3 := isDB_lt hd
        exact ⟨by simp, by simp; omega, by simp; omega⟩
    rw [if_neg c8]
    exact ⟨Nat.le_refl _, h1, h2⟩

variable {w w' w'' : World} {B b : Nat} {s : ByteArray} {i f : Nat} {N nv : Nat} {C : List Nat} {v v' : Value}

/-- What the parts of a statement leave, one behind another: for the walks. -/
theorem SSt.fromS {r' : Nat × Bool × List Nat} {r : Nat × Bool × List Nat} (h : SSt w B b s N nv v r w') :
    ∃ v', ScnC w' B b s r.1 r.2.1 N nv r.2.2 v' ∧ (∀ w'', SSt w' B b s N nv v' r' w'' → SSt w B b s N nv v r' w'') ∧ w.heap.size ≤ w'.heap.size := by
  obtain ⟨v1, h1, h2, h3⟩ := h
  exact ⟨v1, h1, fun w'' k => SSt.step h2 h3 k, h2.size⟩

set_option maxHeartbeats 1000000 in
set_option maxRecDepth 10000 in
theorem rest_seq (d : Int) (hd : d = 44 ∨ d = 116) (IH : Hid (StmtOk B b s N nv f)) (hf : s.size < i + f) (hi : i ≤ s.size) (hB : B ≤ w.heap.size) (hC : C.length ≤ i) (h : ScnC w B b s i false N nv C v) :
    Calls Tryz.prog 62 #[.pointer (some ⟨b, 0, none⟩), .int .u8 d] w fun e w' => e = .returned (.tuple #[]) ∧ SSt w B b s N nv v (thenS (scS (bt s) nv N f i C) (scS (bt s) nv N f)) w' := by
  have HG := hide (scS_good s nv N f i C hi hC)
  have k2 := h.sc.c2
  have HH := hide h
  clear h
  rcases hd with rfl | rfl
  all_goals
    go_enter Tryz.func62, Tryz.ntmps62
    go_wp2_with fail
    refine (unhide IH _ _ _ _ (unhide HH) hf hi hB hC).mono ?_
    rintro e w1 ⟨rfl, hs1⟩
    obtain ⟨v1, h1, hgo, hz⟩ := SSt.fromS (r' := thenS (scS (bt s) nv N f i C) (scS (bt s) nv N f)) hs1
    have HS1 := hide hs1
    have HGO := hide hgo
    have HH1 := hide h1
    have kk := h1.sc.c2
    clear hs1 hgo h1 k2
    cases hr : (scS (bt s) nv N f i C).2.1
    · rw [hr] at kk
      have HT := hide (show thenS (scS (bt s) nv N f i C) (scS (bt s) nv N f) = scS (bt s) nv N f (scS (bt s) nv N f i C).1 (scS (bt s) nv N f i C).2.2 by unfold thenS; rw [hr]; rfl)
      have HH2 := hide (show ScnC w1 B b s (scS (bt s) nv N f i C).1 false N nv (scS (bt s) nv N f i C).2.2 v1 by have := unhide HH1; rw [hr] at this; exact this)
      go_wp2_with fail
      refine (unhide IH _ _ _ _ (unhide HH2) (by have := (unhide HG).1; omega) (unhide HG).2.1 (by omega) (unhide HG).2.2).mono ?_
      rintro e w2 ⟨rfl, hs2⟩
      have HS2 := hide hs2
      clear hs2
      go_wp2_with fail
      go_end0
      exact ⟨rfl, unhide HGO _ (by rw [unhide HT]; exact unhide HS2)⟩
    · rw [hr] at kk
      have HT := hide (show thenS (scS (bt s) nv N f i C) (scS (bt s) nv N f) = scS (bt s) nv N f i C by unfold thenS; rw [hr]; rfl)
      go_wp2_with fail
      go_end0
      exact ⟨rfl, by rw [unhide HT]; exact unhide HS1⟩

/-- Behind a part that turned the Scan alone. -/
theorem ScTo.goes {r : Nat × Bool} {r' : Nat × Bool × List Nat} (h : ScTo w b s N nv v r w') (hc : ScnC w B b s i false N nv C v) :
    ScnC w' B b s r.1 r.2 N nv C v ∧ (∀ w'', SSt w' B b s N nv v r' w'' → SSt w B b s N nv v r' w'') ∧ SSt w B b s N nv v (r.1, r.2, C) w' ∧ w.heap.size ≤ w'.heap.size := by
  have h0 := h.sst hc
  obtain ⟨v1, h1, h2, h3⟩ := h0
  have e : v1 = v := by
    have a1 := h1.sc.c5
    have a2 := (h.scn hc.sc).c5
    rw [a1] at a2
    exact Option.some.inj a2
  subst e
  exact ⟨h1, fun w'' k => SSt.step h2 h3 k, ⟨v1, h1, h2, h3⟩, h2.size⟩

set_option maxHeartbeats 1000000 in
set_option maxRecDepth 10000 in
theorem rest_w (IH : Hid (StmtOk B b s N nv f)) (hs : s.size ≤ 300) (hf : s.size < i + f) (hi : i ≤ s.size) (hB : B ≤ w.heap.size) (hC : C.length ≤ i) (h : ScnC w B b s i false N nv C v) :
    Calls Tryz.prog 62 #[.pointer (some ⟨b, 0, none⟩), .int .u8 119] w fun e w' => e = .returned (.tuple #[]) ∧ SSt w B b s N nv v (thenE (scE (bt s) nv f i) C (fun j => scS (bt s) nv N f j C)) w' := by
  have HE1 := hide (scE_le (bt s) nv f i)
  have HE2 := hide (scE_sz s nv f i hi)
  have k2 := h.sc.c2
  have HH := hide h
  clear h
  go_enter Tryz.func62, Tryz.ntmps62
  go_wp2_with fail
  refine (scanExpr_any b s N nv v hs f _ i (unhide HH).sc hf hi).mono ?_
  rintro e w1 ⟨rfl, hto⟩
  obtain ⟨h1, hgo, hst, hz⟩ := ScTo.goes (r' := thenE (scE (bt s) nv f i) C (fun j => scS (bt s) nv N f j C)) hto (unhide HH)
  have HS1 := hide hst
  have HGO := hide hgo
  have HH1 := hide h1
  have kk := h1.sc.c2
  clear hto hst hgo h1 k2
  cases hr : (scE (bt s) nv f i).2
  · rw [hr] at kk
    have HT := hide (show thenE (scE (bt s) nv f i) C (fun j => scS (bt s) nv N f j C) = scS (bt s) nv N f (scE (bt s) nv f i).1 C by unfold thenE; rw [hr]; rfl)
    have HH2 := hide (show ScnC w1 B b s (scE (bt s) nv f i).1 false N nv C v by have := unhide HH1; rw [hr] at this; exact this)
    go_wp2_with fail
    refine (unhide IH _ _ _ _ (unhide HH2) (by have := unhide HE1; omega) (unhide HE2) (by omega) (by have := unhide HE1; omega)).mono ?_
    rintro e w2 ⟨rfl, hs2⟩
    obtain ⟨v2, h2, hgo2, hz2⟩ := SSt.fromS (r' := scS (bt s) nv N f (scE (bt s) nv f i).1 C) hs2
    have HS2 := hide hs2
    have k3 := h2.sc.c2
    clear hs2 h2 hgo2 hz2 kk
    cases hr2 : (scS (bt s) nv N f (scE (bt s) nv f i).1 C).2.1
    all_goals
      rw [hr2] at k3
      go_wp2_with fail
      go_end0
      exact ⟨rfl, unhide HGO _ (by rw [unhide HT]; exact unhide HS2)⟩
  · rw [hr] at kk
    have HT := hide (show thenE (scE (bt s) nv f i) C (fun j => scS (bt s) nv N f j C) = ((scE (bt s) nv f i).1, (scE (bt s) nv f i).2, C) by unfold thenE; rw [hr]; rfl)
    go_wp2_with fail
    go_end0
    exact ⟨rfl, by rw [unhide HT]; exact unhide HS1⟩

set_option maxHeartbeats 1000000 in
set_option maxRecDepth 10000 in
theorem rest_i (IH : Hid (StmtOk B b s N nv f)) (hs : s.size ≤ 300) (hf : s.size < i + f) (hi : i ≤ s.size) (hB : B ≤ w.heap.size) (hC : C.length ≤ i) (h : ScnC w B b s i false N nv C v) :
    Calls Tryz.prog 62 #[.pointer (some ⟨b, 0, none⟩), .int .u8 105] w fun e w' => e = .returned (.tuple #[]) ∧ SSt w B b s N nv v (thenE (scE (bt s) nv f i) C (fun j => thenS (scS (bt s) nv N f j C) (scS (bt s) nv N f))) w' := by
  have HE1 := hide (scE_le (bt s) nv f i)
  have HE2 := hide (scE_sz s nv f i hi)
  have HG := hide (scS_good s nv N f (scE (bt s) nv f i).1 C (unhide HE2) (by have := unhide HE1; omega))
  have k2 := h.sc.c2
  have HH := hide h
  clear h
  go_enter Tryz.func62, Tryz.ntmps62
  go_wp2_with fail
  refine (scanExpr_any b s N nv v hs f _ i (unhide HH).sc hf hi).mono ?_
  rintro e w1 ⟨rfl, hto⟩
  obtain ⟨h1, hgo, hst, hz⟩ := ScTo.goes (r' := thenE (scE (bt s) nv f i) C (fun j => thenS (scS (bt s) nv N f j C) (scS (bt s) nv N f))) hto (unhide HH)
  have HS1 := hide hst
  have HGO := hide hgo
  have HH1 := hide h1
  have kk := h1.sc.c2
  clear hto hst hgo h1 k2
  cases hr : (scE (bt s) nv f i).2
  · rw [hr] at kk
    have HT := hide (show thenE (scE (bt s) nv f i) C (fun j => thenS (scS (bt s) nv N f j C) (scS (bt s) nv N f)) = thenS (scS (bt s) nv N f (scE (bt s) nv f i).1 C) (scS (bt s) nv N f) by unfold thenE; rw [hr]; rfl)
    have HH2 := hide (show ScnC w1 B b s (scE (bt s) nv f i).1 false N nv C v by have := unhide HH1; rw [hr] at this; exact this)
    generalize (scE (bt s) nv f i).1 = j at *
    go_wp2_with fail
    refine (unhide IH _ _ _ _ (unhide HH2) (by have := unhide HE1; omega) (unhide HE2) (by omega) (by have := unhide HE1; omega)).mono ?_
    rintro e w2 ⟨rfl, hs2⟩
    obtain ⟨v2, h2, hgo2, hz2⟩ := SSt.fromS (r' := thenS (scS (bt s) nv N f j C) (scS (bt s) nv N f)) hs2
    have HS2 := hide hs2
    have HGO2 := hide hgo2
    have HH3 := hide h2
    have k3 := h2.sc.c2
    clear hs2 h2 hgo2 kk
    cases hr2 : (scS (bt s) nv N f j C).2.1
    · rw [hr2] at k3
      have HT2 := hide (show thenS (scS (bt s) nv N f j C) (scS (bt s) nv N f) = scS (bt s) nv N f (scS (bt s) nv N f j C).1 (scS (bt s) nv N f j C).2.2 by unfold thenS; rw [hr2]; rfl)
      have HH4 := hide (show ScnC w2 B b s (scS (bt s) nv N f j C).1 false N nv (scS (bt s) nv N f j C).2.2 v2 by have := unhide HH3; rw [hr2] at this; exact this)
      go_wp2_with fail
      refine (unhide IH _ _ _ _ (unhide HH4) (by have := (unhide HG).1; have := unhide HE1; omega) (unhide HG).2.1 (by omega) (unhide HG).2.2).mono ?_
      rintro e w3 ⟨rfl, hs3⟩
      have HS3 := hide hs3
      clear hs3
      go_wp2_with fail
      go_end0
      exact ⟨rfl, unhide HGO _ (by rw [unhide HT]; exact unhide HGO2 _ (by rw [unhide HT2]; exact unhide HS3))⟩
    · rw [hr2] at k3
      have HT2 := hide (show thenS (scS (bt s) nv N f j C) (scS (bt s) nv N f) = scS (bt s) nv N f j C by unfold thenS; rw [hr2]; rfl)
      go_wp2_with fail
      go_end0
      exact ⟨rfl, unhide HGO _ (by rw [unhide HT, unhide HT2]; exact unhide HS2)⟩
  · rw [hr] at kk
    have HT := hide (show thenE (scE (bt s) nv f i) C (fun j => thenS (scS (bt s) nv N f j C) (scS (bt s) nv N f)) = ((scE (bt s) nv f i).1, (scE (bt s) nv f i).2, C) by unfold thenE; rw [hr]; rfl)
    go_wp2_with fail
    go_end0
    exact ⟨rfl, by rw [unhide HT]; exact unhide HS1⟩

/-- A first part, and then an expression. -/
def thenX (r : Nat × Bool) (C : List Nat) (g : Nat → Nat × Bool) : Nat × Bool × List Nat := if r.2 = true then (r.1, true, C) else ((g r.1).1, (g r.1).2, C)

set_option maxHeartbeats 1000000 in
set_option maxRecDepth 10000 in
theorem rest_eq (hs : s.size ≤ 300) (hf : s.size < i + f) (hi : i ≤ s.size) (h : ScnC w B b s i false N nv C v) :
    Calls Tryz.prog 62 #[.pointer (some ⟨b, 0, none⟩), .int .u8 61] w fun e w' => e = .returned (.tuple #[]) ∧ SSt w B b s N nv v (thenX (vrS (bt s) nv i) C (scE (bt s) nv f)) w' := by
  have k2 := h.sc.c2
  have HH := hide h
  clear h
  have HV := hide (show (vrS (bt s) nv i).2 = false → (vrS (bt s) nv i).1 = i + 1 ∧ i + 1 ≤ s.size by
    intro hh
    unfold vrS at hh ⊢
    cases e : isVar nv (bt s i)
    · rw [e] at hh; simp at hh
    · simp; exact isVar_lt e)
  go_enter Tryz.func62, Tryz.ntmps62
  go_wp2_with fail
  refine (scanVar_any (unhide HH).sc (by omega)).mono ?_
  rintro e w1 ⟨rfl, hto⟩
  obtain ⟨h1, hgo, hst, hz⟩ := ScTo.goes (r' := thenX (vrS (bt s) nv i) C (scE (bt s) nv f)) hto (unhide HH)
  have HS1 := hide hst
  have HGO := hide hgo
  have HH1 := hide h1
  have kk := h1.sc.c2
  clear hto hst hgo h1 k2
  cases hr : (vrS (bt s) nv i).2
  · rw [hr] at kk
    have HT := hide (show thenX (vrS (bt s) nv i) C (scE (bt s) nv f) = ((scE (bt s) nv f (vrS (bt s) nv i).1).1, (scE (bt s) nv f (vrS (bt s) nv i).1).2, C) by unfold thenX; rw [hr]; rfl)
    have HH2 := hide (show ScnC w1 B b s (vrS (bt s) nv i).1 false N nv C v by have := unhide HH1; rw [hr] at this; exact this)
    have HJ := hide (unhide HV hr)
    generalize (vrS (bt s) nv i).1 = j at *
    go_wp2_with fail
    refine (scanExpr_any b s N nv v hs f _ j (unhide HH2).sc (by have := unhide HJ; omega) (by have := unhide HJ; omega)).mono ?_
    rintro e w2 ⟨rfl, hto2⟩
    have HS2 := hide (hto2.sst (unhide HH2))
    have k3 := (hto2.scn (unhide HH2).sc).c2
    clear hto2 kk
    cases hr2 : (scE (bt s) nv f j).2
    all_goals
      rw [hr2] at k3
      go_wp2_with fail
      go_end0
      exact ⟨rfl, unhide HGO _ (by rw [unhide HT]; exact unhide HS2)⟩
  · rw [hr] at kk
    have HT := hide (show thenX (vrS (bt s) nv i) C (scE (bt s) nv f) = ((vrS (bt s) nv i).1, (vrS (bt s) nv i).2, C) by unfold thenX; rw [hr]; rfl)
    go_wp2_with fail
    go_end0
    exact ⟨rfl, by rw [unhide HT]; exact unhide HS1⟩

set_option maxHeartbeats 1000000 in
set_option maxRecDepth 10000 in
theorem rest_o (hs : s.size ≤ 300) (hf : s.size < i + f) (hi : i ≤ s.size) (h : ScnC w B b s i false N nv C v) :
    Calls Tryz.prog 62 #[.pointer (some ⟨b, 0, none⟩), .int .u8 111] w fun e w' => e = .returned (.tuple #[]) ∧ SSt w B b s N nv v (thenX (dgS (bt s) N i) C (scE (bt s) nv f)) w' := by
  have k2 := h.sc.c2
  have k3 := h.sc.c3
  have HH := hide h
  clear h
  have HV := hide (show (dgS (bt s) N i).2 = false → (dgS (bt s) N i).1 = i + 1 ∧ i + 1 ≤ s.size by
    intro hh
    unfold dgS at hh ⊢
    cases e : isDB (bt s i) N
    · rw [e] at hh; simp at hh
    · simp; exact isDB_lt e)
  go_enter Tryz.func62, Tryz.ntmps62
  go_wp2_with fail
  refine (scanDigit_any N (unhide HH).sc (by omega)).mono ?_
  rintro e w1 ⟨rfl, hto⟩
  obtain ⟨h1, hgo, hst, hz⟩ := ScTo.goes (r' := thenX (dgS (bt s) N i) C (scE (bt s) nv f)) hto (unhide HH)
  have HS1 := hide hst
  have HGO := hide hgo
  have HH1 := hide h1
  have kk := h1.sc.c2
  clear hto hst hgo h1 k2 k3
  cases hr : (dgS (bt s) N i).2
  · rw [hr] at kk
    have HT := hide (show thenX (dgS (bt s) N i) C (scE (bt s) nv f) = ((scE (bt s) nv f (dgS (bt s) N i).1).1, (scE (bt s) nv f (dgS (bt s) N i).1).2, C) by unfold thenX; rw [hr]; rfl)
    have HH2 := hide (show ScnC w1 B b s (dgS (bt s) N i).1 false N nv C v by have := unhide HH1; rw [hr] at this; exact this)
    have HJ := hide (unhide HV hr)
    generalize (dgS (bt s) N i).1 = j at *
    go_wp2_with fail
    refine (scanExpr_any b s N nv v hs f _ j (unhide HH2).sc (by have := unhide HJ; omega) (by have := unhide HJ; omega)).mono ?_
    rintro e w2 ⟨rfl, hto2⟩
    have HS2 := hide (hto2.sst (unhide HH2))
    have k3 := (hto2.scn (unhide HH2).sc).c2
    clear hto2 kk
    cases hr2 : (scE (bt s) nv f j).2
    all_goals
      rw [hr2] at k3
      go_wp2_with fail
      go_end0
      exact ⟨rfl, unhide HGO _ (by rw [unhide HT]; exact unhide HS2)⟩
  · rw [hr] at kk
    have HT := hide (show thenX (dgS (bt s) N i) C (scE (bt s) nv f) = ((dgS (bt s) N i).1, (dgS (bt s) N i).2, C) by unfold thenX; rw [hr]; rfl)
    go_wp2_with fail
    go_end0
    exact ⟨rfl, by rw [unhide HT]; exact unhide HS1⟩

set_option maxHeartbeats 1000000 in
set_option maxRecDepth 10000 in
theorem rest_r (hs : s.size ≤ 300) (hi : i ≤ s.size) (h : ScnC w B b s i false N nv C v) :
    Calls Tryz.prog 62 #[.pointer (some ⟨b, 0, none⟩), .int .u8 114] w fun e w' => e = .returned (.tuple #[]) ∧ SSt w B b s N nv v (thenX (dgS (bt s) N i) C (vrS (bt s) nv)) w' := by
  have k2 := h.sc.c2
  have k3 := h.sc.c3
  have HH := hide h
  clear h
  have HV := hide (show (dgS (bt s) N i).2 = false → (dgS (bt s) N i).1 = i + 1 ∧ i + 1 ≤ s.size by
    intro hh
    unfold dgS at hh ⊢
    cases e : isDB (bt s i) N
    · rw [e] at hh; simp at hh
    · simp; exact isDB_lt e)
  go_enter Tryz.func62, Tryz.ntmps62
  go_wp2_with fail
  refine (scanDigit_any N (unhide HH).sc (by omega)).mono ?_
  rintro e w1 ⟨rfl, hto⟩
  obtain ⟨h1, hgo, hst, hz⟩ := ScTo.goes (r' := thenX (dgS (bt s) N i) C (vrS (bt s) nv)) hto (unhide HH)
  have HS1 := hide hst
  have HGO := hide hgo
  have HH1 := hide h1
  have kk := h1.sc.c2
  clear hto hst hgo h1 k2 k3
  cases hr : (dgS (bt s) N i).2
  · rw [hr] at kk
    have HT := hide (show thenX (dgS (bt s) N i) C (vrS (bt s) nv) = ((vrS (bt s) nv (dgS (bt s) N i).1).1, (vrS (bt s) nv (dgS (bt s) N i).1).2, C) by unfold thenX; rw [hr]; rfl)
    have HH2 := hide (show ScnC w1 B b s (dgS (bt s) N i).1 false N nv C v by have := unhide HH1; rw [hr] at this; exact this)
    have HJ := hide (unhide HV hr)
    generalize (dgS (bt s) N i).1 = j at *
    go_wp2_with fail
    refine (scanVar_any (unhide HH2).sc (by have := unhide HJ; omega)).mono ?_
    rintro e w2 ⟨rfl, hto2⟩
    have HS2 := hide (hto2.sst (unhide HH2))
    have k3 := (hto2.scn (unhide HH2).sc).c2
    clear hto2 kk
    cases hr2 : (vrS (bt s) nv j).2
    all_goals
      rw [hr2] at k3
      go_wp2_with fail
      go_end0
      exact ⟨rfl, unhide HGO _ (by rw [unhide HT]; exact unhide HS2)⟩
  · rw [hr] at kk
    have HT := hide (show thenX (dgS (bt s) N i) C (vrS (bt s) nv) = ((dgS (bt s) N i).1, (dgS (bt s) N i).2, C) by unfold thenX; rw [hr]; rfl)
    go_wp2_with fail
    go_end0
    exact ⟨rfl, by rw [unhide HT]; exact unhide HS1⟩

end Go.Proofs.YtfcflnnleadpkaaGreat

namespace Go.Proofs.YtfcflnnleadpkaaGreat
open Go.RowKit

theorem thenE_X (e : Nat × Bool) (C : List Nat) : thenE e C (fun j => (j, false, C)) = (e.1, e.2, C) := by
  obtain ⟨a, x⟩ := e
  cases x <;> rfl
theorem scS_plain {c : Nat → Int} {nv N f i : Nat} {C : List Nat} (h : c i = 46 ∨ c i = 120) : scS c nv N (f + 1) i C = (i + 1, false, C) := by
  simp only [scS]; rw [if_pos h]
theorem scS_seq {c : Nat → Int} {nv N f i : Nat} {C : List Nat} (h : c i = 44 ∨ c i = 116) : scS c nv N (f + 1) i C = thenS (scS c nv N f (i + 1) C) (scS c nv N f) := by
  simp only [scS]; rw [if_neg (by omega), if_pos h]
theorem scS_eq {c : Nat → Int} {nv N f i : Nat} {C : List Nat} (h : c i = 61) : scS c nv N (f + 1) i C = thenX (vrS c nv (i + 1)) C (scE c nv f) := by
  simp only [scS]; rw [if_neg (by omega), if_neg (by omega), if_pos h]
  unfold thenX vrS
  cases e : isVar nv (c (i + 1))
  · rfl
  · simp only [if_true]; rw [thenE_X]; rfl
theorem scS_i {c : Nat → Int} {nv N f i : Nat} {C : List Nat} (h : c i = 105) : scS c nv N (f + 1) i C = thenE (scE c nv f (i + 1)) C (fun j => thenS (scS c nv N f j C) (scS c nv N f)) := by
  simp only [scS]; rw [if_neg (by omega), if_neg (by omega), if_neg (by omega), if_pos h]
theorem scS_w {c : Nat → Int} {nv N f i : Nat} {C : List Nat} (h : c i = 119) : scS c nv N (f + 1) i C = thenE (scE c nv f (i + 1)) C (fun j => scS c nv N f j C) := by
  simp only [scS]; rw [if_neg (by omega), if_neg (by omega), if_neg (by omega), if_neg (by omega), if_pos h]
theorem scS_r {c : Nat → Int} {nv N f i : Nat} {C : List Nat} (h : c i = 114) : scS c nv N (f + 1) i C = thenX (dgS c N (i + 1)) C (vrS c nv) := by
  simp only [scS]; rw [if_neg (by omega), if_neg (by omega), if_neg (by omega), if_neg (by omega), if_neg (by omega), if_pos h]
  unfold thenX dgS vrS
  cases e : isDB (c (i + 1)) N
  · rfl
  · cases e2 : isVar nv (c (i + 2))
    · simp [e2]
    · simp [e2]
theorem scS_o {c : Nat → Int} {nv N f i : Nat} {C : List Nat} (h : c i = 111) : scS c nv N (f + 1) i C = thenX (dgS c N (i + 1)) C (scE c nv f) := by
  simp only [scS]; rw [if_neg (by omega), if_neg (by omega), if_neg (by omega), if_neg (by omega), if_neg (by omega), if_neg (by omega), if_pos h]
  unfold thenX dgS
  cases e : isDB (c (i + 1)) N
  · rfl
  · simp only [if_true]; rw [thenE_X]; rfl
theorem scS_c {c : Nat → Int} {nv N f i : Nat} {C : List Nat} (h : c i = 99) : scS c nv N (f + 1) i C = ((dgS c 4 (i + 1)).1, (dgS c 4 (i + 1)).2, C ++ [i + 1]) := by
  simp only [scS]; rw [if_neg (by omega), if_neg (by omega), if_neg (by omega), if_neg (by omega), if_neg (by omega), if_neg (by omega), if_neg (by omega), if_pos h]
  unfold dgS
  cases e : isDB (c (i + 1)) 4
  · rfl
  · rfl
theorem scS_no {c : Nat → Int} {nv N f i : Nat} {C : List Nat} (h1 : c i ≠ 46) (h2 : c i ≠ 120) (h3 : c i ≠ 44) (h4 : c i ≠ 116) (h5 : c i ≠ 61) (h6 : c i ≠ 105) (h7 : c i ≠ 119) (h8 : c i ≠ 114) (h9 : c i ≠ 111) (h10 : c i ≠ 99) : scS c nv N (f + 1) i C = (i, true, C) := by
  simp only [scS]; rw [if_neg (by omega), if_neg (by omega), if_neg h5, if_neg h6, if_neg h7, if_neg h8, if_neg h9, if_neg h10]

variable {w w' w'' : World} {B b : Nat} {s : ByteArray} {i f : Nat} {N nv : Nat} {C : List Nat} {v v' : Value}

/-- Behind the letter. -/
theorem ScnC.letter (h : ScnC w B b s i false N nv C v) (q : Nat) (r' : Nat × Bool × List Nat) :
    ScnC ((w.setRow b (scC s (i + 1) false N nv v)).drewN q) B b s (i + 1) false N nv C v ∧ (∀ w'', SSt ((w.setRow b (scC s (i + 1) false N nv v)).drewN q) B b s N nv v r' w'' → SSt w B b s N nv v r' w'') := by
  have hto : ScTo w b s N nv v (i + 1, false) ((w.setRow b (scC s (i + 1) false N nv v)).drewN q) := ⟨q, rfl⟩
  obtain ⟨h1, h2, _, _⟩ := ScTo.goes (r' := r') hto h
  exact ⟨h1, h2⟩

set_option maxHeartbeats 1000000 in
set_option maxRecDepth 10000 in
/-- A statement whose letter is d, by what is read behind the letter. -/
theorem stmt_letter (d : Int) (hd : d = 46 ∨ d = 120 ∨ d = 44 ∨ d = 116 ∨ d = 61 ∨ d = 105 ∨ d = 119 ∨ d = 114 ∨ d = 111 ∨ d = 99) (hbt : bt s i = d) (hi : i ≤ 400) (h : ScnC w B b s i false N nv C v) (r' : Nat × Bool × List Nat)
    (hr : ∀ w1, w.heap.size ≤ w1.heap.size → ScnC w1 B b s (i + 1) false N nv C v → Calls Tryz.prog 62 #[.pointer (some ⟨b, 0, none⟩), .int .u8 d] w1 fun e w' => e = .returned (.tuple #[]) ∧ SSt w1 B b s N nv v r' w') :
    Calls Tryz.prog 28 #[.pointer (some ⟨b, 0, none⟩)] w fun e w' => e = .returned (.tuple #[]) ∧ SSt w B b s N nv v r' w' := by
  have k1 := h.sc.c1
  have kz := h.sc.fz 1
  have HH := hide h
  have HR := hide hr
  have HBT := hide hbt
  clear h hr hbt
  rcases hd with rfl | rfl | rfl | rfl | rfl | rfl | rfl | rfl | rfl | rfl
  all_goals
    go_enter Tryz.func28, Tryz.ntmps28
    go_wp2_with fail
    refine (peek_any (unhide HH).sc).mono ?_
    rintro e w1 ⟨rfl, q, rfl⟩
    rw [unhide HBT]
    go_wp2_with fail
    rw [setCell_drewN, (unhide HH).sc.set1 _ (i + 1) (by omega)]
    obtain ⟨hl1, hl2⟩ := (unhide HH).letter q r'
    have HL1 := hide hl1
    have HL2 := hide hl2
    clear hl1 hl2
    refine (unhide HR _ (by simp) (unhide HL1)).mono ?_
    rintro e w2 ⟨rfl, hs2⟩
    have HS2 := hide hs2
    clear hs2
    go_wp2_with fail
    go_end0
    exact ⟨rfl, unhide HL2 _ (unhide HS2)⟩

set_option maxHeartbeats 1000000 in
set_option maxRecDepth 10000 in
theorem stmt_no (h1 : bt s i ≠ 46) (h2 : bt s i ≠ 120) (h3 : bt s i ≠ 44) (h4 : bt s i ≠ 116) (h5 : bt s i ≠ 61) (h6 : bt s i ≠ 105) (h7 : bt s i ≠ 119) (h8 : bt s i ≠ 114) (h9 : bt s i ≠ 111) (h10 : bt s i ≠ 99) (h : ScnC w B b s i false N nv C v) :
    Calls Tryz.prog 28 #[.pointer (some ⟨b, 0, none⟩)] w fun e w' => e = .returned (.tuple #[]) ∧ SSt w B b s N nv v (i, true, C) w' := by
  have k2 := h.sc.c2
  have kz := h.sc.fz 2
  have HH := hide h
  clear h
  have g1 : (bt s i != 46) = true := by simp [h1]
  have g2 : (bt s i != 120) = true := by simp [h2]
  have g3 : (bt s i != 44) = true := by simp [h3]
  have g4 : (bt s i != 116) = true := by simp [h4]
  have g5 : (bt s i != 61) = true := by simp [h5]
  have g6 : (bt s i != 105) = true := by simp [h6]
  have g7 : (bt s i != 119) = true := by simp [h7]
  have g8 : (bt s i != 114) = true := by simp [h8]
  have g9 : (bt s i != 111) = true := by simp [h9]
  have g10 : (bt s i != 99) = true := by simp [h10]
  clear h1 h2 h3 h4 h5 h6 h7 h8 h9 h10
  go_enter Tryz.func28, Tryz.ntmps28
  go_wp2_with fail
  refine (peek_any (unhide HH).sc).mono ?_
  rintro e w1 ⟨rfl, q, rfl⟩
  go_wp2_with fail
  refine bodyPost_ret (v := .tuple #[]) (results_none Tryz.results28 _ _ _) rfl ⟨rfl, ?_⟩
  have hto : ScTo w b s N nv v (i, true) ((w.drewN q).setCell ⟨b, 2, none⟩ (.bool true)) := ⟨q, by rw [setCell_drewN, (unhide HH).sc.set2]⟩
  exact hto.sst (unhide HH)

theorem stmt_ok (B b : Nat) (s : ByteArray) (N nv : Nat) (hs : s.size ≤ 300) (f : Nat) : StmtOk B b s N nv f := by
  induction f with
  | zero => intro w i C v h hf hi; omega
  | succ f ih =>
    intro w i C v h hf hi hB hC
    have lt : ∀ x : Int, x ≠ 0 → bt s i = x → i < s.size := fun x hx e => bt_lt (by rw [e]; exact hx)
    by_cases c1 : bt s i = 46
    · rw [scS_plain (Or.inl c1)]
      exact stmt_letter 46 (by omega) c1 (by omega) h _ (fun w1 _ h1 => rest_plain 46 (by omega) h1)
    by_cases c2 : bt s i = 120
    · rw [scS_plain (Or.inr c2)]
      exact stmt_letter 120 (by omega) c2 (by omega) h _ (fun w1 _ h1 => rest_plain 120 (by omega) h1)
    by_cases c3 : bt s i = 44
    · rw [scS_seq (Or.inl c3)]
      have := lt _ (by omega) c3
      exact stmt_letter 44 (by omega) c3 (by omega) h _ (fun w1 hz h1 => rest_seq 44 (by omega) ih (by omega) (by omega) (by omega) (by omega) h1)
    by_cases c4 : bt s i = 116
    · rw [scS_seq (Or.inr c4)]
      have := lt _ (by omega) c4
      exact stmt_letter 116 (by omega) c4 (by omega) h _ (fun w1 hz h1 => rest_seq 116 (by omega) ih (by omega) (by omega) (by omega) (by omega) h1)
    by_cases c5 : bt s i = 61
    · rw [scS_eq c5]
      have := lt _ (by omega) c5
      exact stmt_letter 61 (by omega) c5 (by omega) h _ (fun w1 hz h1 => rest_eq hs (by omega) (by omega) h1)
    by_cases c6 : bt s i = 105
    · rw [scS_i c6]
      have := lt _ (by omega) c6
      exact stmt_letter 105 (by omega) c6 (by omega) h _ (fun w1 hz h1 => rest_i ih hs (by omega) (by omega) (by omega) (by omega) h1)
    by_cases c7 : bt s i = 119
    · rw [scS_w c7]
      have := lt _ (by omega) c7
      exact stmt_letter 119 (by omega) c7 (by omega) h _ (fun w1 hz h1 => rest_w ih hs (by omega) (by omega) (by omega) (by omega) h1)
    by_cases c8 : bt s i = 114
    · rw [scS_r c8]
      have := lt _ (by omega) c8
      exact stmt_letter 114 (by omega) c8 (by omega) h _ (fun w1 hz h1 => rest_r hs (by omega) h1)
    by_cases c9 : bt s i = 111
    · rw [scS_o c9]
      have := lt _ (by omega) c9
      exact stmt_letter 111 (by omega) c9 (by omega) h _ (fun w1 hz h1 => rest_o hs (by omega) (by omega) h1)
    by_cases c10 : bt s i = 99
    · rw [scS_c c10]
      have := lt _ (by omega) c10
      exact stmt_letter 99 (by omega) c10 (by omega) h _ (fun w1 hz h1 => rest_c (by omega) (by omega) (by omega) h1)
    rw [scS_no c1 c2 c3 c4 c5 c6 c7 c8 c9 c10]
    exact stmt_no c1 c2 c3 c4 c5 c6 c7 c8 c9 c10 h

end Go.Proofs.YtfcflnnleadpkaaGreat

namespace Go.Proofs.YtfcflnnleadpkaaGreat
open Go.RowKit

/-- May the byte x stand for a variable, where there are N levels? -/
def vb (N : Nat) (x : Int) : Bool := x == 63 || isDB x N
def cntV (c : Nat → Int) (N : Nat) : Nat → Nat → Nat
  | 0, k => k
  | f + 1, k => if vb N (c k) = true then cntV c N f (k + 1) else k
/-- How many variables a text has. -/
def nvOf (c : Nat → Int) (N : Nat) : Nat := cntV c N 8 0
theorem cntV_yes {c : Nat → Int} {N n k : Nat} (hk : k < n) (h : vb N (c k) = true) : cntV c N (n - k) k = cntV c N (n - (k + 1)) (k + 1) := by
  obtain ⟨m, hm⟩ : ∃ m, n - k = m + 1 := ⟨n - k - 1, by omega⟩
  have h2 : n - (k + 1) = m := by omega
  rw [hm, h2]; simp [cntV, h]
theorem cntV_no {c : Nat → Int} {N n k : Nat} (hk : k < n) (h : vb N (c k) = false) : cntV c N (n - k) k = k := by
  obtain ⟨m, hm⟩ : ∃ m, n - k = m + 1 := ⟨n - k - 1, by omega⟩
  rw [hm]; simp [cntV, h]
theorem cntV_end {c : Nat → Int} {N n k : Nat} (hk : n ≤ k) : cntV c N (n - k) k = k := by
  rw [show n - k = 0 from by omega]; rfl
/-- A variable's level in the text; -1: to be worked out. -/
def fixV (c : Nat → Int) (N : Nat) (k : Nat) : Int := dgt (c k) N
def fixL (c : Nat → Int) (N m : Nat) : List Value := (List.range m).map (fun k => Value.int .i64 (fixV c N k))
theorem fixL_succ (c : Nat → Int) (N m : Nat) : fixL c N m ++ [.int .i64 (fixV c N m)] = fixL c N (m + 1) := by
  unfold fixL; rw [List.range_succ, List.map_append]; rfl
theorem fixL_len (c : Nat → Int) (N m : Nat) : (fixL c N m).length = m := by simp [fixL]

/-- What 'vars' leaves. -/
def vrEnd (c : Nat → Int) (N : Nat) : Nat × Bool := if c (nvOf c N) = 58 then (nvOf c N + 1, false) else (nvOf c N, true)
theorem vb_58 (N : Nat) : vb N 58 = false := by
  cases h : vb N 58 with
  | false => rfl
  | true =>
    unfold vb at h
    simp only [Bool.or_eq_true] at h
    rcases h with h | h
    · simp at h
    · have := (isDB_iff 58 N).1 h; omega

variable {w w' w'' : World} {B b : Nat} {s : ByteArray} {i f : Nat} {N nv : Nat} {C : List Nat} {v v' : Value}

/-- The loop's state: the Scan at k, and a list of its own. -/
structure VarsI (w0 w : World) (b : Nat) (s : ByteArray) (k : Nat) (bad : Bool) (N nv : Nat) (v l : Value) : Prop where
  sc : Scn w b s k bad N nv v
  own : w.ownsRow w0.heap.size 3 1 l k (fixL (bt s) N k)
  kp : Kp b none w0 w

theorem VarsI.set1 {w0 : World} {k : Nat} {l : Value} (h : VarsI w0 w b s k false N nv v l) (hb : b < w0.heap.size) (j : Nat) (y : Bool) (q : Nat) :
    (Scn ((w.setRow b (scC s j y N nv v)).drewN q) b s j y N nv v) ∧ ((w.setRow b (scC s j y N nv v)).drewN q).ownsRow w0.heap.size 3 1 l k (fixL (bt s) N k) ∧ Kp b none w0 ((w.setRow b (scC s j y N nv v)).drewN q) := by
  have hg : w.grownBy ((w.setRow b (scC s j y N nv v)).drewN q) (some b) := ⟨rfl, rfl, rfl, by simp, fun k _ hk => setRow_other w b k _ (fun e => hk (by rw [e]))⟩
  refine ⟨h.sc.row j y v, h.own.kept hg ?_, ?_⟩
  · cases e : l.ownBlock with
    | none => exact Or.inl rfl
    | some g => exact Or.inr (by have := (h.own.lt g e).1; intro e'; simp at e'; omega)
  · exact h.kp.trans (Kp.setRow w b none _ q) (Or.inl rfl)

theorem VarsI.push {w0 w1 : World} {k gg cap : Nat} {l : Value} (h : VarsI w0 w b s k false N nv v l) (hb : b < w0.heap.size) (q : Nat)
    (hown1 : w1.ownsRow w0.heap.size 3 1 (.slice (some ⟨gg, 0, none⟩) (k + 1) cap) (k + 1) (fixL (bt s) N k ++ [.int .i64 (fixV (bt s) N k)]))
    (hgrow : ((w.alloc (.cells #[.int .i64 (fixV (bt s) N k)] 3)).drewN q).grownBy w1 l.ownBlock) :
    VarsI w0 (w1.setCell ⟨b, 1, none⟩ (.int .i64 ((k : Int) + 1))) b s (k + 1) false N nv v (.slice (some ⟨gg, 0, none⟩) (k + 1) cap) := by
  have hbw : b < w.heap.size := by have := h.kp.size; omega
  have hlb : some b ≠ l.ownBlock := fun e => by have := (h.own.lt b e.symm).1; omega
  have hb1 : ∀ j, j < w.heap.size → some j ≠ l.ownBlock → w1.heap[j]? = w.heap[j]? := fun j hj hne =>
    (hgrow.block j (by simp; omega) hne).trans (Below.heap_alloc w _ j hj)
  have hs1 : Scn w1 b s k false N nv v := (hb1 b hbw hlb).trans h.sc
  rw [hs1.set1 _ (k + 1) (by omega)]
  have hg2 : w1.grownBy (w1.setRow b (scC s (k + 1) false N nv v)) (some b) := ⟨rfl, rfl, rfl, by simp, fun j _ hk => setRow_other w1 b j _ (fun e => hk (by rw [e]))⟩
  refine ⟨hs1.row (k + 1) false v, ?_, ?_⟩
  · have hgg := (hown1.lt gg rfl).1
    rw [fixL_succ] at hown1
    exact hown1.kept hg2 (Or.inr (by simp [Value.ownBlock]; omega))
  · refine ⟨hgrow.os.trans h.kp.os, hgrow.tape.trans h.kp.tape, hgrow.output.trans h.kp.output, ?_, fun j hj h1 h2 => ?_⟩
    · have := hgrow.size; have := h.kp.size; simp at *; omega
    · have hj2 : j < w.heap.size := by have := h.kp.size; omega
      refine (setRow_other w1 b j _ h1).trans ((hb1 j hj2 (fun e => ?_)).trans (h.kp.block j hj h1 h2))
      have := (h.own.lt j e.symm).1; omega

end Go.Proofs.YtfcflnnleadpkaaGreat
