import Derived.Test.YtfcflnnleadpkaaRe
import Derived.Test.YtfcflnnleadpkaaRb
namespace Go.Proofs.Ytfcflnnleadpkaa
open Go.RowKit

/-- What the document's Read answers, and what it leaves in memory. -/
def ReadAns (s : ByteArray) (B : Nat) (e : Ending) (w' : World) : Prop :=
  ∃ (a p : Int) (n : Nat), ReadPost s a p n ∧
    ((a ≠ 0 ∧ e = .returned (.tuple #[.pointer none, .int .i64 a, .int .i64 p])) ∨
     (a = 0 ∧ p = 0 ∧ 1 ≤ n ∧ n ≤ 8 ∧ ∃ o g cap rb, B ≤ o ∧ Ord w' o g cap n rb (cl s n) ∧ e = .returned (.tuple #[.pointer (some ⟨o, 0, none⟩), .int .i64 0, .int .i64 0])))

theorem Grid.ord {w : World} {B g cap n : Nat} {rb : Nat → Nat} {F : Nat → Nat → Bool} (h : Grid w B g n rb F) (t : TypeId) :
    Ord (w.alloc (.cells #[.int .i64 n, .slice (some ⟨g, 0, none⟩) n cap] t)) w.heap.size g cap n rb F := by
  have hold : ∀ a v, w.cell? a = some v → (w.alloc (.cells #[.int .i64 n, .slice (some ⟨g, 0, none⟩) n cap] t)).cell? a = some v := by
    intro a v hv
    rw [World.cell?_of_block (w := w) (Below.heap_alloc w _ _ (World.block_lt_of_cell? w a hv))]
    exact hv
  exact ⟨by simp, by simp, fun i hi => hold _ _ (h.out i hi), fun i j hi hj => hold _ _ (h.cell hi hj)⟩

set_option maxHeartbeats 1000000 in
theorem Read_any (w : World) (s : ByteArray) :
    Calls Try.prog 15 #[.string s] w fun e w' => ReadAns s w.heap.size e w' ∧ Below w.heap.size w w' := by
  by_cases h : s.size ≤ 65
  · have hgt : decide ((65 : Int) < (s.size : Int)) = false := by simp; omega
    have HW : Hid (∀ w, Calls Try.prog 33 #[.string s] w fun e w' => WrittenPost s e ∧ w' = w) := by
      intro w
      by_cases hf : ∃ n, FirstOk s n
      · obtain ⟨n, hf⟩ := hf
        exact written_ok w s n hf h
      · exact written_bad0 w s (fun n hn => hf ⟨n, hn⟩)
    go_enter Try.func15, Try.ntmps15
    go_wp2_with fail
    refine (unhide HW _).mono ?_
    rintro e w' ⟨hp, rfl⟩
    rcases hp with ⟨k, x, hk, rfl⟩ | ⟨n, hgd, rfl⟩
    · have HK := hide hk
      clear hk
      go_wp2_with fail
      go_ret3
      exact ⟨⟨2, k, 0, Or.inr (Or.inl ⟨h, k, unhide HK, rfl, rfl, rfl⟩), Or.inl ⟨by omega, rfl⟩⟩, Below.refl _ _⟩
    · have HGD := hide hgd
      have h1 : 1 ≤ n := hgd.1.2.2.1
      have h8 : n ≤ 8 := hgd.1.2.2.2
      clear hgd
      go_wp2_with fail
      refine (closed_any _ _ _ h1 h8 h (unhide HGD)).mono ?_
      rintro e w1 ⟨⟨g, cap, rb, rfl, hgr⟩, hb⟩
      have HGR := hide hgr
      clear hgr
      have HO := hide (fun t => (unhide HGR).ord (cap := cap) t)
      go_wp2_with fail
      refine (well_any _ _ _ _ _ _ _ h8 (unhide HO _)).mono ?_
      rintro e w' ⟨rfl, rfl⟩
      cases hw : Hm.wellR (cl s n) n
      · have HP : Hid (ReadPost s 3 0 0) := Or.inr (Or.inr (Or.inl ⟨h, n, unhide HGD, hw, rfl, rfl, rfl⟩))
        go_wp2_with fail
        go_ret3
        exact ⟨⟨3, 0, 0, unhide HP, Or.inl ⟨by omega, rfl⟩⟩, hb.trans ((Below.refl _ _).alloc hb.size _)⟩
      · have HP : Hid (ReadPost s 0 0 n) := Or.inr (Or.inr (Or.inr ⟨h, unhide HGD, hw, rfl, rfl⟩))
        go_wp2_with fail
        go_ret3
        exact ⟨⟨0, 0, n, unhide HP, Or.inr ⟨rfl, rfl, h1, h8, w1.heap.size, g, cap, rb, hb.size, unhide HO _, rfl⟩⟩, hb.trans ((Below.refl _ _).alloc hb.size _)⟩
  · have hgt : (65 : Int) < (s.size : Int) := by omega
    have HP : Hid (ReadPost s 1 0 0) := Or.inl ⟨by omega, rfl, rfl, rfl⟩
    go_enter Try.func15, Try.ntmps15
    go_wp2_with fail
    go_ret3
    exact ⟨⟨1, 0, 0, unhide HP, Or.inl ⟨by omega, rfl⟩⟩, Below.refl _ _⟩

end Go.Proofs.Ytfcflnnleadpkaa
