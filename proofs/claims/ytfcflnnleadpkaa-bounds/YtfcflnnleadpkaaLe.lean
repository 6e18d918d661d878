import Derived.Test.YtfcflnnleadpkaaLc
import Derived.Test.YtfcflnnleadpkaaLd
import Derived.Deep.WholeRow
namespace Go.Proofs.Ytfcflnnleadpkaa
open Go.RowKit

theorem info_lat : (Try.prog.info? 76).map (fun i => (i.zero, i.size)) = some (some (.agg (latC 0 0 0 noT)), 132) := by kernel_rfl
theorem zero_lat : ∀ w, (zeroValue 76).run Try.prog w = .ok (.agg (latC 0 0 0 noT)) w := (zero_of_info info_lat).1
theorem size_lat : (Try.prog.info? 76).map (·.size) = some 132 := (zero_of_info info_lat).2

theorem store_arr {t : TypeId} {m : Nat} (hm : (Try.prog.info? t).map (·.size) = some m) (w : World) (g : Nat) (C C' : Array Value) (h1 : C.size = m) (h2 : C'.size = m) (ha : C'.all (·.oneCell') = true) (hg : w.heap[g]? = some (.cells C t (0, 0))) :
    Sem.run Try.prog (storeCells ⟨g, 0, none⟩ C'.toList) w = .ok () (w.setRow g C') := by
  have h := run_storeVar_row (P := Try.prog) w g t t _ C' hg (by rw [h2]; exact hm) (by rw [h1, h2]) ha
  cases hq : Try.prog.info? t with
  | none => simp [hq] at hm
  | some i =>
    have hs : i.size = m := by simpa [hq] using hm
    simpa [storeVar, sizeOf, typeInfo, hq, Value.cells, hs, h2] using h
theorem store_lat (w : World) (g : Nat) (e p n e' p' n' : Int) (R R' : Nat → Nat → Bool) (hg : w.heap[g]? = some (.cells (latC e p n R) 76 (0, 0))) :
    Sem.run Try.prog (storeCells ⟨g, 0, none⟩ (latC e' p' n' R').toList) w = .ok () (w.setRow g (latC e' p' n' R')) :=
  store_arr size_lat w g _ _ (latC_size _ _ _ _) (latC_size _ _ _ _) (latC_all _ _ _ _) hg
theorem store_latJ (w : World) (g : Nat) (e p n e' p' n' : Int) (R R' : Nat → Nat → Bool) (J : Nat → Nat → Int) (z : Int) (hg : w.heap[g]? = some (.cells (latC e p n R) 76 (0, 0))) :
    Sem.run Try.prog (storeCells ⟨g, 0, none⟩ (latJ e' p' n' R' J z).toList) w = .ok () (w.setRow g (latJ e' p' n' R' J z)) :=
  store_arr size_lat w g _ _ (latC_size _ _ _ _) (latJ_size _ _ _ _ _ _) (latJ_all _ _ _ _ _ _) hg
theorem ret_lat {fn : Func} {k : Tmp} (h : fn.results = #[.cell k 76]) (tmps : Array Value) (w : World) (g : Nat) (e p n : Int) (R : Nat → Nat → Bool)
    (hp : tmps.getD k undef = .pointer (some ⟨g, 0, none⟩)) (hg : w.heap[g]? = some (.cells (latC e p n R) 76 (0, 0))) :
    (results fn tmps).run Try.prog w = .ok (.agg (latC e p n R)) w :=
  results_cell_row h tmps w g _ _ _ _ hp hg Try.underlying76 rfl (by rw [latC_size]; exact size_lat)
theorem ret_latJ {fn : Func} {k : Tmp} (h : fn.results = #[.cell k 76]) (tmps : Array Value) (w : World) (g : Nat) (e p n : Int) (R : Nat → Nat → Bool) (J : Nat → Nat → Int) (z : Int)
    (hp : tmps.getD k undef = .pointer (some ⟨g, 0, none⟩)) (hg : w.heap[g]? = some (.cells (latJ e p n R J z) 76 (0, 0))) :
    (results fn tmps).run Try.prog w = .ok (.agg (latJ e p n R J z)) w :=
  results_cell_row h tmps w g _ _ _ _ hp hg Try.underlying76 rfl (by rw [latJ_size]; exact size_lat)

set_option maxHeartbeats 400000 in
set_option maxRecDepth 100000 in
theorem noOrder_any (w : World) (p : Int) :
    Calls Try.prog 65 #[.int .i64 p] w fun e w' => e = .returned (.agg (latC 2 p 0 noT)) ∧ Below w.heap.size w w' := by
  have hz := zero_lat
  have z0 := latC_size 0 0 0 noT
  have z1 := latC_size 2 0 0 noT
  have s0 := latC_set0 0 2 0 0 noT
  have s1 := latC_set1 2 0 p 0 noT
  have hst := store_lat (w.alloc (.cells (latC 0 0 0 noT) 76)) w.heap.size 0 0 0 2 p 0 noT noT (heap_alloc_last w _)
  rw [World.setRow_alloc_new] at hst
  go_enter Try.func65, Try.ntmps65
  go_wp2_with fail
  refine bodyPost_ret (v := .agg (latC 2 p 0 noT)) (ret_lat Try.results65 _ _ w.heap.size _ _ _ _ rfl (heap_alloc_last w _)) rfl ⟨rfl, ?_⟩
  exact (Below.refl _ _).alloc (Nat.le_refl _) _

end Go.Proofs.Ytfcflnnleadpkaa
