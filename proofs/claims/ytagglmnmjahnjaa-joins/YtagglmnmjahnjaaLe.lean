import Derived.Test.YtagglmnmjahnjaaLc
import Derived.Test.YtagglmnmjahnjaaDa
import Derived.Deep.WholeRow
namespace Go.Proofs.Ytagglmnmjahnjaa
open Go.RowKit

theorem info_lat : (Try.prog.info? 59).map (fun i => (i.zero, i.size)) = some (some (.agg (latC 0 0 0 noT)), 67) := by kernel_rfl
theorem zero_lat : ∀ w, (zeroValue 59).run Try.prog w = .ok (.agg (latC 0 0 0 noT)) w := (zero_of_info info_lat).1
theorem size_lat : (Try.prog.info? 59).map (·.size) = some 67 := (zero_of_info info_lat).2

theorem latC_set0 (e e' p n : Int) (R : Nat → Nat → Bool) : (latC e p n R).setIfInBounds 0 (.int .i64 e') = latC e' p n R := by simp [latC]
theorem latC_set1 (e p p' n : Int) (R : Nat → Nat → Bool) : (latC e p n R).setIfInBounds 1 (.int .i64 p') = latC e p' n R := by simp [latC]
theorem latC_set2 (e p n n' : Int) (R : Nat → Nat → Bool) : (latC e p n R).setIfInBounds 2 (.int .i64 n') = latC e p n' R := by simp [latC]

theorem latC_g0 (e p n : Int) (R : Nat → Nat → Bool) (h : 0 < (latC e p n R).size) : (latC e p n R)[0] = .int .i64 e := by
  have h1 := latC_0 e p n R
  rw [Array.getElem?_eq_getElem h] at h1
  exact Option.some.inj h1
theorem latC_g1 (e p n : Int) (R : Nat → Nat → Bool) (h : 1 < (latC e p n R).size) : (latC e p n R)[1] = .int .i64 p := by
  have h1 := latC_1 e p n R
  rw [Array.getElem?_eq_getElem h] at h1
  exact Option.some.inj h1

theorem store_lat (w : World) (g : Nat) (e p n e' p' n' : Int) (R R' : Nat → Nat → Bool) (hg : w.heap[g]? = some (.cells (latC e p n R) 59 (0, 0))) :
    Sem.run Try.prog (storeCells ⟨g, 0, none⟩ (latC e' p' n' R').toList) w = .ok () (w.setRow g (latC e' p' n' R')) := by
  have h := run_storeVar_row (P := Try.prog) w g 59 59 _ (latC e' p' n' R') hg (by rw [latC_size]; exact size_lat) (by rw [latC_size, latC_size]) (latC_all _ _ _ _)
  cases hq : Try.prog.info? 59 with
  | none => have := size_lat; simp [hq] at this
  | some i =>
    have hs : i.size = 67 := by have := size_lat; simpa [hq] using this
    have hz := latC_size e' p' n' R'
    simpa [storeVar, sizeOf, typeInfo, hq, Value.cells, hs, hz] using h
theorem load_lat (w : World) (g : Nat) (e p n : Int) (R : Nat → Nat → Bool) (hg : w.heap[g]? = some (.cells (latC e p n R) 59 (0, 0))) :
    Sem.run Try.prog (loadCells ⟨g, 0, none⟩ 67) w = .ok (latC e p n R) w := by
  have hl : (loadCells ⟨g, 0, none⟩ (latC e p n R).toList.length).run Try.prog w = .ok (latC e p n R).toList.toArray w :=
    run_loadCells_list (P := Try.prog) w ⟨g, 0, none⟩ (latC e p n R).toList (fun j v hv => by
      have hadd : (⟨g, 0, none⟩ : Addr).add j = ⟨g, j, none⟩ := by unfold Addr.add; split <;> simp_all
      rw [hadd, cell_of_row w g j _ _ _ hg]
      simpa using hv)
  simpa [latC_size] using hl
theorem loadFrom_lat (w : World) (g : Nat) (e p n : Int) (R : Nat → Nat → Bool) (hg : w.heap[g]? = some (.cells (latC e p n R) 59 (0, 0))) :
    Sem.run Try.prog (loadCellsFrom ⟨g, 0, none⟩ 0 67 #[]) w = .ok (latC e p n R) w := by
  have h := load_lat w g e p n R hg
  simpa only [loadCells] using h
theorem ret_lat {fn : Func} {k : Tmp} (h : fn.results = #[.cell k 59]) (tmps : Array Value) (w : World) (g : Nat) (e p n : Int) (R : Nat → Nat → Bool)
    (hp : tmps.getD k undef = .pointer (some ⟨g, 0, none⟩)) (hg : w.heap[g]? = some (.cells (latC e p n R) 59 (0, 0))) :
    (results fn tmps).run Try.prog w = .ok (.agg (latC e p n R)) w :=
  results_cell_row h tmps w g _ _ _ _ hp hg Try.underlying59 rfl (by rw [latC_size]; exact size_lat)

set_option maxHeartbeats 400000 in
theorem noOrder_any (w : World) (p : Int) :
    Calls Try.prog 46 #[.int .i64 p] w fun e w' => e = .returned (.agg (latC 2 p 0 noT)) ∧ Below w.heap.size w w' := by
  have hz := zero_lat
  have z0 := latC_size 0 0 0 noT
  have z1 := latC_size 2 0 0 noT
  have s0 := latC_set0 0 2 0 0 noT
  have s1 := latC_set1 2 0 p 0 noT
  have hst := store_lat (w.alloc (.cells (latC 0 0 0 noT) 59)) w.heap.size 0 0 0 2 p 0 noT noT (heap_alloc_last w _)
  rw [World.setRow_alloc_new] at hst
  go_enter Try.func46, Try.ntmps46
  go_wp2_with fail
  refine bodyPost_ret (v := .agg (latC 2 p 0 noT)) (ret_lat Try.results46 _ _ w.heap.size _ _ _ _ rfl (heap_alloc_last w _)) rfl ⟨rfl, ?_⟩
  exact (Below.refl _ _).alloc (Nat.le_refl _) _

end Go.Proofs.Ytagglmnmjahnjaa
