import Derived.Test.YtfcflnnleadpkaaLg
namespace Go.Proofs.Ytfcflnnleadpkaa
open Go.RowKit

theorem hasJ_congr {n : Nat} {R S : Nat → Nat → Bool} (h : Hm.Same n R S) : Hm.hasJ R n = Hm.hasJ S n := by
  rw [Bool.eq_iff_iff, Hm.hasJ_iff, Hm.hasJ_iff]
  constructor
  · intro k a b ha hb
    obtain ⟨c, h1, h2⟩ := k a b ha hb
    exact ⟨c, h1, by rw [← Hm.lub_congr h ha (by omega) h1]; exact h2⟩
  · intro k a b ha hb
    obtain ⟨c, h1, h2⟩ := k a b ha hb
    exact ⟨c, h1, by rw [Hm.lub_congr h ha (by omega) h1]; exact h2⟩
theorem trn_flip (n : Nat) (R : Nat → Nat → Bool) : Hm.Same n (trn n R n 0) (Hm.flip R) := by
  intro i j hi hj
  unfold trn Hm.flip
  rw [if_pos (Or.inl hj), if_pos hi]
set_option maxHeartbeats 1000000 in
set_option maxRecDepth 100000 in
theorem wellOrdered_any (w : World) (b n : Nat) (R : Nat → Nat → Bool) (hn : n ≤ 8) (hl : LatM w b 0 n R) :
    Calls Try.prog 51 #[.pointer (some ⟨b, 0, none⟩)] w fun e w' => e = .returned (.bool (Hm.wellC R n)) ∧ Below w.heap.size w w' := by
  have hz := zero_lat
  cases h1 : Hm.circ R n
  · cases h2 : Hm.hasJ R n
    · have HF := hide (show Hm.wellC R n = false by unfold Hm.wellC; rw [h1, h2]; rfl)
      go_enter Try.func51, Try.ntmps51
      go_wp2_with fail
      refine (hasCircle_any _ _ _ _ _ hn hl).mono ?_
      rintro e w' ⟨rfl, rfl⟩
      go_wp2_with fail
      refine (hasJoins_any _ _ _ _ _ hn hl).mono ?_
      rintro e w' ⟨rfl, rfl⟩
      go_wp2_with fail
      go_ret
      exact ⟨by rw [unhide HF]; rfl, Below.refl _ _⟩
    · have HF := hide (show Hm.wellC R n = Hm.hasJ (trn n R n 0) n by unfold Hm.wellC; rw [h1, h2, hasJ_congr (trn_flip n R)]; rfl)
      go_enter Try.func51, Try.ntmps51
      go_wp2_with fail
      refine (hasCircle_any _ _ _ _ _ hn hl).mono ?_
      rintro e w' ⟨rfl, rfl⟩
      go_wp2_with fail
      refine (hasJoins_any _ _ _ _ _ hn hl).mono ?_
      rintro e w' ⟨rfl, rfl⟩
      go_wp2_with fail
      refine (turned_any _ _ _ _ hn hl).mono ?_
      rintro e w1 ⟨rfl, hb⟩
      have hst := store_lat (w1.alloc (.cells (latC 0 0 0 noT) 76)) w1.heap.size 0 0 0 0 0 n noT (trn n R n 0) (heap_alloc_last w1 _)
      rw [World.setRow_alloc_new] at hst
      have z1 := latC_size 0 0 n (trn n R n 0)
      have z0 := latC_size 0 0 0 noT
      go_wp2_with fail
      refine (hasJoins_any _ _ _ _ _ hn (latC_lat (heap_alloc_last w1 _))).mono ?_
      rintro e w2 ⟨rfl, rfl⟩
      go_wp2_with fail
      go_ret
      exact ⟨by rw [unhide HF]; rfl, hb.trans ((Below.refl _ _).alloc hb.size _)⟩
  · have HF := hide (show Hm.wellC R n = false by unfold Hm.wellC; rw [h1]; rfl)
    go_enter Try.func51, Try.ntmps51
    go_wp2_with fail
    refine (hasCircle_any _ _ _ _ _ hn hl).mono ?_
    rintro e w' ⟨rfl, rfl⟩
    go_wp2_with fail
    go_ret
    exact ⟨by rw [unhide HF]; rfl, Below.refl _ _⟩


end Go.Proofs.Ytfcflnnleadpkaa
