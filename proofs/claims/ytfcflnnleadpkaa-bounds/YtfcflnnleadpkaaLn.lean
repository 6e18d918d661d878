import Derived.Test.YtfcflnnleadpkaaLi
import Derived.BigQuiet
import Derived.Deep.QuietTactic
namespace Go.Proofs.Ytfcflnnleadpkaa
open Go.RowKit

theorem ReadPost_p0 {s : ByteArray} {a p : Int} {n : Nat} (h : ReadPost s a p n) : a = 0 → p = 0 := by
  intro ha
  rcases h with ⟨_, h, _⟩ | ⟨_, _, _, h, _⟩ | ⟨_, _, _, _, h, _⟩ | ⟨_, _, _, _, h⟩ <;> omega
theorem levA_g0 (s : ByteArray) {a p : Int} {n : Nat} (_ : a = 0 → p = 0) (h : 0 < (levA s a p n).size) : (levA s a p n)[0] = .int .i64 a := by
  by_cases ha : a = 0
  · subst ha; simp only [levA_0]; exact latJ_g0 _ _ _ _ _ _ (by rw [levA_0] at h; exact h)
  · simp only [levA_e s ha]; exact latC_g0 _ _ _ _ (by rw [levA_e s ha] at h; exact h)
theorem levA_g1 (s : ByteArray) {a p : Int} {n : Nat} (h0 : a = 0 → p = 0) (h : 1 < (levA s a p n).size) : (levA s a p n)[1] = .int .i64 p := by
  by_cases ha : a = 0
  · have hp := h0 ha
    subst ha; subst hp; simp only [levA_0]; exact latJ_g1 _ _ _ _ _ _ (by rw [levA_0] at h; exact h)
  · simp only [levA_e s ha]; exact latC_g1 _ _ _ _ (by rw [levA_e s ha] at h; exact h)

theorem fullL_lat {w : World} {b n : Nat} {R : Nat → Nat → Bool} {t : TypeId} {fr : Nat × Nat} (h : w.heap[b]? = some (.cells (fullL n R) t fr)) : LatM w b 0 n R := latJ_lat h
theorem fullL_jo {w : World} {b n i j : Nat} {R : Nat → Nat → Bool} {t : TypeId} {fr : Nat × Nat} (h : w.heap[b]? = some (.cells (fullL n R) t fr)) (hi : i < n) (hj : j < n) (hn : n ≤ 8) : w.cell? ⟨b, 0 + 67 + i * 8 + j, none⟩ = some (.int .i64 (Hm.joinI R n i j)) := by
  rw [show 0 + 67 + i * 8 + j = 67 + i * 8 + j by omega, rowF_cell h (by omega), latF_jj _ _ _ _ _ _ _ _ (by omega) (by omega), jTo_all _ _ _ _ hi hj]
theorem fullL_g0 (n : Nat) (R : Nat → Nat → Bool) (h : 0 < (fullL n R).size) : (fullL n R)[0] = .int .i64 0 := latJ_g0 _ _ _ _ _ _ h

end Go.Proofs.Ytfcflnnleadpkaa
