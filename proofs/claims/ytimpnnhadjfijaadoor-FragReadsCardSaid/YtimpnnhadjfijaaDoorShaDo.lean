/-
  The constants are made once: sync.Once's Do, and words.
-/
import Derived.Test.YtimpnnhadjfijaaDoorShaOnce
namespace Go.Proofs.YtimpnnhadjfijaaDoor
open Go.RowKit

theorem sum_set0 (d l d' : Int) (z : Value) (made st : List Value) : (sumCells d l z made st).setIfInBounds 0 (.int .u32 d') = sumCells d' l z made st := by simp [sumCells, onceV]
theorem sum_set1 (d l l' : Int) (z : Value) (made st : List Value) : (sumCells d l z made st).setIfInBounds 1 (.int .i32 l') = sumCells d l' z made st := by simp [sumCells, onceV]
theorem sum_get0 {w : World} {p : Nat} {d l : Int} {z : Value} {made st : List Value} {t : TypeId} (h : w.heap[p]? = some (.cells (sumCells d l z made st) t (0, 0))) : w.cell? ⟨p, 0, none⟩ = some (.int .u32 d) := by
  rw [Lib.cell_of_heap h]; rfl
theorem sum_get1 {w : World} {p : Nat} {d l : Int} {z : Value} {made st : List Value} {t : TypeId} (h : w.heap[p]? = some (.cells (sumCells d l z made st) t (0, 0))) : w.cell? ⟨p, 1, none⟩ = some (.int .i32 l) := by
  rw [Lib.cell_of_heap h]; rfl

set_option maxRecDepth 100000 in
set_option maxHeartbeats 1600000 in
theorem slow_any (p : Nat) (pl : Addr) (z : Value) (made st : List Value) (w : World) (hpb : ¬ p = pl.block) (hp : w.cell? pl = some (.pointer (some ⟨p, 0, none⟩))) (hg : w.heap[p]? = some (.cells (sumCells 0 0 z made st) 84 (0, 0))) (hm : made.length = 72) :
    Calls Tryd.prog 49 #[.pointer (some ⟨p, 0, none⟩), .func (.func 44) #[] #[.pointer (some pl)]] w fun e w' => e = .returned (.tuple #[]) ∧ w'.heap[p]? = some (.cells (sumCells 1 0 z madeV st) 84 (0, 0)) ∧ Spares (fun b => b = p) w w' := by
  have hg1 : (w.setCell ⟨p, 1, none⟩ (.int .i32 1)).heap[p]? = some (.cells (sumCells 0 1 z made st) 84 (0, 0)) := by rw [← sum_set1 0 0]; exact heap_set hg 1 _
  have c1 := sum_get1 hg
  have f1 := Lib.frozen_of_heap hg 1
  have hp1 : (w.setCell ⟨p, 1, none⟩ (.int .i32 1)).cell? pl = some (.pointer (some ⟨p, 0, none⟩)) := (World.cell?_setCell_other _ ⟨p, 1, none⟩ pl _ (fun h => hpb (by rw [← h]))).trans hp
  have hl := run_call_load (P := Tryd.prog) Tryd.func52 (by kernel_rfl) (by kernel_rfl) (by kernel_rfl) .u32 (by kernel_rfl) (w := w.setCell ⟨p, 1, none⟩ (.int .i32 1)) (a := ⟨p, 0, none⟩) (x := 0) (sum_get0 hg1)
  have hnot : ∀ (x : Bool) (w : World), (Op.unary .not (.bool x)).run Tryd.prog w = .ok (.bool (!x)) w := fun _ _ => rfl
  have HG1 := Lib.hid hg1
  have hs1 : Hid (Spares (fun b => b = p) w (w.setCell ⟨p, 1, none⟩ (.int .i32 1))) := Lib.hid (spares_set (Spares.refl _ w) 1 _)
  clear hg hg1
  go_enter_defers Tryd.func49, Tryd.ntmps49
  go_wp2_with (first | (go_at_call 53; refine (lock_free ⟨p, 1, none⟩ _ c1 f1).mono ?_; rintro e w' ⟨rfl, rfl⟩) | (go_at_call 48; go_in) | (go_at_call 44; refine (words1_any p pl 0 1 z made st _ hp1 HG1.out hm).mono ?_; rintro e w2 ⟨rfl, hg2, hs2⟩))
  refine leaves_cons (f := 55) (args := #[.pointer (some ⟨p, 0, none⟩), .bool true]) (by simp) (by simp [go_sem]) ?_
  refine (store_deferred ⟨p, 0, none⟩ (.int .u32 0) .returning _ (sum_get0 hg2) (Lib.frozen_of_heap hg2 0)).mono ?_
  rintro e u' w'' ⟨rfl, rfl, rfl⟩
  have hg3 : (w2.drew.setCell ⟨p, 0, none⟩ (.int .u32 1)).heap[p]? = some (.cells (sumCells 1 1 z madeV st) 84 (0, 0)) := by rw [← sum_set0 0 1]; exact heap_set (w := w2.drew) hg2 0 _
  have hs3 := spares_set (hs1.out.trans hs2).drew 0 (.int .u32 1)
  refine leaves_cons (f := 54) (args := #[.pointer (some ⟨p, 1, none⟩)]) (by simp [settle]) (by simp [go_sem]) ?_
  refine (unlock_deferred ⟨p, 1, none⟩ _ _ (sum_get1 hg3) (Lib.frozen_of_heap hg3 1)).mono ?_
  rintro e u' w'' ⟨rfl, rfl, rfl⟩
  have hg4 : ((w2.drew.setCell ⟨p, 0, none⟩ (.int .u32 1)).setCell ⟨p, 1, none⟩ (.int .i32 0)).heap[p]? = some (.cells (sumCells 1 0 z madeV st) 84 (0, 0)) := by rw [← sum_set1 1 1]; exact heap_set hg3 1 _
  have hs4 := spares_set hs3 1 (.int .i32 0)
  simp [Leaves, settle, results, Tryd.results49]
  exact ⟨hg4, hs4⟩

set_option maxRecDepth 100000 in
set_option maxHeartbeats 1600000 in
theorem do_first (p : Nat) (pl : Addr) (z : Value) (made st : List Value) (w : World) (hpb : ¬ p = pl.block) (hp : w.cell? pl = some (.pointer (some ⟨p, 0, none⟩))) (hg : w.heap[p]? = some (.cells (sumCells 0 0 z made st) 84 (0, 0))) (hm : made.length = 72) :
    Calls Tryd.prog 43 #[.pointer (some ⟨p, 0, none⟩), .func (.func 44) #[] #[.pointer (some pl)]] w fun e w' => e = .returned (.tuple #[]) ∧ w'.heap[p]? = some (.cells (sumCells 1 0 z madeV st) 84 (0, 0)) ∧ Spares (fun b => b = p) w w' := by
  have hl := run_call_load (P := Tryd.prog) Tryd.func52 (by kernel_rfl) (by kernel_rfl) (by kernel_rfl) .u32 (by kernel_rfl) (sum_get0 hg)
  have hnot : ∀ (x : Bool) (w : World), (Op.unary .not (.bool x)).run Tryd.prog w = .ok (.bool (!x)) w := fun _ _ => rfl
  have HC := Lib.hid (slow_any p pl z made st w hpb hp hg hm)
  clear hp hg hpb
  go_enter Tryd.func43, Tryd.ntmps43
  go_wp2_with (first | (go_at_call 49; refine HC.out.mono ?_; rintro e w' ⟨rfl, hg2, hs2⟩) | (go_at_call 48; go_in))
  go_end0
  exact ⟨rfl, hg2, hs2⟩
theorem do_done (a : Addr) (d : Int) (hd : ¬ d = 0) (fv : Value) (w : World) (h0 : w.cell? a = some (.int .u32 d)) :
    Calls Tryd.prog 43 #[.pointer (some a), fv] w fun e w' => e = .returned (.tuple #[]) ∧ w' = w := by
  have hl := run_call_load (P := Tryd.prog) Tryd.func52 (by kernel_rfl) (by kernel_rfl) (by kernel_rfl) .u32 (by kernel_rfl) h0
  have hnot : ∀ (x : Bool) (w : World), (Op.unary .not (.bool x)).run Tryd.prog w = .ok (.bool (!x)) w := fun _ _ => rfl
  have hd' : (d != 0) = true := by simp [hd]
  go_enter Tryd.func43, Tryd.ntmps43
  go_wp2
  go_end0
  exact ⟨rfl, rfl⟩
end Go.Proofs.YtimpnnhadjfijaaDoor
