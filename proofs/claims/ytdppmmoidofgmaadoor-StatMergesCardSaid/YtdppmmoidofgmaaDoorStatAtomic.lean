/-
  The numbers of sync/atomic in one goroutine: put on, read; counters at nought.
-/
import Derived.Test.YtdppmmoidofgmaaDoorStatMath
import Derived.Laws.Pointers
import Derived.Laws.LoneSync
import Derived.RegionTactic
import Derived.RegionCalls
import Derived.BigQuiet
import Derived.Great.BuildSlice
import Derived.Great.Ranges
import Derived.Lib.Hide
namespace Go.Proofs.YtdppmmoidofgmaaDoor
open Go.RowKit


set_option maxRecDepth 100000 in
theorem iAdd_any (a : Addr) (x y : Int) (w : World) (hc : w.cell? a = some (.int .i64 x)) (hz : w.frozen? a = false) (hw : IntKind.i64.wrap (x + y) = x + y) :
    Calls Tryd.prog 20 #[.pointer (some a), .int .i64 y] w fun e w' => e = .returned (.int .i64 (x + y)) ∧ w' = w.setCell a (.int .i64 (x + y)) := by
  have hadd := run_call_add (P := Tryd.prog) Tryd.func28 (by kernel_rfl) (by kernel_rfl) (by kernel_rfl) .i64 (by kernel_rfl) (y := y) (s := x + y) hc hz (by simp [go_sem, hw])
  go_enter Tryd.func20, Tryd.ntmps20
  go_wp2

  go_ret
  exact ⟨rfl, rfl⟩
set_option maxRecDepth 100000 in
theorem iLoad_any (a : Addr) (x : Int) (w : World) (hc : w.cell? a = some (.int .i64 x)) :
    Calls Tryd.prog 24 #[.pointer (some a)] w fun e w' => e = .returned (.int .i64 x) ∧ w' = w := by
  have hl := run_call_load (P := Tryd.prog) Tryd.func33 (by kernel_rfl) (by kernel_rfl) (by kernel_rfl) .i64 (by kernel_rfl) hc
  go_enter Tryd.func24, Tryd.ntmps24
  go_wp2
  go_ret
  exact ⟨rfl, rfl⟩
def zeroA : Array Value := Array.replicate 45 (.int .i64 0)
theorem zeroA_cells : (cellsC zeroC).toArray = zeroA := rfl
theorem built_stat : Tryd.prog.built 56 [] = some zeroA := by kernel_rfl
theorem built_ref : Tryd.prog.built 30 [] = some zeroA := by kernel_rfl
theorem alloc_stat (t : TypeId) (w : World) : StatAt t w.heap.size zeroC (w.alloc (.cells zeroA t)) := heap_alloc_new w _
theorem zeroA_cells' : (Value.agg zeroA).cells = zeroA := by
  unfold zeroA
  kernel_rfl
set_option maxRecDepth 100000 in
theorem new_any (w : World) : Calls Tryd.prog 7 #[] w fun e w' => e = .returned (.pointer (some ⟨w.heap.size, 0, none⟩)) ∧ w' = w.alloc (.cells zeroA 56) := by
  go_enter Tryd.func7, Tryd.ntmps7
  go_wp2_with (first | (refine wpList_buildTo rfl 56 _ rfl (some 1) rfl zeroA built_stat ?_) | (refine Go.Great.wpList_boxTo rfl 56 _ rfl (some 2) rfl w.heap.size rfl zeroA zeroA_cells' ?_))
  go_ret
  exact ⟨rfl, rfl⟩
end Go.Proofs.YtdppmmoidofgmaaDoor
