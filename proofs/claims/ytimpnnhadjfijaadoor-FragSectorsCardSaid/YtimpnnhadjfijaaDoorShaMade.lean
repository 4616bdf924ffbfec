/-
  words: the constants, made or not.
-/
import Derived.Test.YtimpnnhadjfijaaDoorShaDo
namespace Go.Proofs.YtimpnnhadjfijaaDoor
open Go.RowKit

/-- What words leaves: the constants at hand, nothing else turned. -/
def Made (p : Nat) (z : Value) (st : List Value) (w : World) (e : Ending) (w' : World) : Prop := e = .returned (.pointer (some ⟨p, 3, none⟩)) ∧ w'.heap[p]? = some (.cells (sumCells 1 0 z madeV st) 84 (0, 0)) ∧ Spares (fun b => b = p) w w'
set_option maxRecDepth 100000 in
set_option maxHeartbeats 1600000 in
theorem words_first (p : Nat) (z : Value) (made st : List Value) (w : World) (hg : w.heap[p]? = some (.cells (sumCells 0 0 z made st) 84 (0, 0))) (hm : made.length = 72) :
    Calls Tryd.prog 34 #[.pointer (some ⟨p, 0, none⟩)] w (Made p z st w) := by
  have hp : p < w.heap.size := (Array.getElem?_eq_some_iff.1 hg).1
  have hmf : ∀ (fn : Fn) (first cap : Array Value) (w : World), (Instr.makeFunc fn first cap).run Tryd.prog w = .ok (.func fn first cap) w := fun _ _ _ _ => rfl
  have hs0 : Spares nowhere w (w.alloc (.cells #[.pointer (some ⟨p, 0, none⟩)] 95)) := (Spares.refl _ _).alloc _
  have hb0 := heap_alloc_new w (.cells #[.pointer (some ⟨p, 0, none⟩)] 95)
  have HC := Lib.hid (do_first p ⟨w.heap.size, 0, none⟩ z made st (w.alloc (.cells #[.pointer (some ⟨p, 0, none⟩)] 95)) (by simp; omega) ((Lib.cell_of_heap hb0 0).trans rfl) (hs0.heap hg (fun h => h)) hm)
  have HB := Lib.hid hb0
  have HS := Lib.hid hs0
  clear hg hs0 hb0
  go_enter Tryd.func34, Tryd.ntmps34
  go_wp2_with fail
  refine HC.out.mono ?_
  rintro e w2 ⟨rfl, hg2, hs2⟩
  have hb2 := hs2.heap HB.out (by omega)
  have c2 : w2.cell? ⟨w.heap.size, 0, none⟩ = some (.pointer (some ⟨p, 0, none⟩)) := by rw [Lib.cell_of_heap hb2]; rfl
  have HG := Lib.hid hg2
  have HS2 := Lib.hid (Spares.trans' (F := fun b => b = p) (HS.out.mono (fun _ h => by cases h)) hs2 (fun b hb => .inl hb))
  clear hg2 hs2 hb2
  go_wp2
  go_ret
  exact ⟨rfl, HG.out, HS2.out⟩
set_option maxRecDepth 100000 in
theorem words_again (p : Nat) (z : Value) (st : List Value) (w : World) (hg : w.heap[p]? = some (.cells (sumCells 1 0 z madeV st) 84 (0, 0))) :
    Calls Tryd.prog 34 #[.pointer (some ⟨p, 0, none⟩)] w (Made p z st w) := by
  have hp : p < w.heap.size := (Array.getElem?_eq_some_iff.1 hg).1
  have hmf : ∀ (fn : Fn) (first cap : Array Value) (w : World), (Instr.makeFunc fn first cap).run Tryd.prog w = .ok (.func fn first cap) w := fun _ _ _ _ => rfl
  have hs0 : Spares nowhere w (w.alloc (.cells #[.pointer (some ⟨p, 0, none⟩)] 95)) := (Spares.refl _ _).alloc _
  have hg1 := hs0.heap hg (fun h => h)
  have HC := Lib.hid (fun fv => do_done ⟨p, 0, none⟩ 1 (by decide) fv (w.alloc (.cells #[.pointer (some ⟨p, 0, none⟩)] 95)) (sum_get0 hg1))
  have HG := Lib.hid hg1
  have HS := Lib.hid hs0
  clear hg hs0 hg1
  go_enter Tryd.func34, Tryd.ntmps34
  go_wp2_with fail
  refine (HC.out _).mono ?_
  rintro e w2 ⟨rfl, rfl⟩
  go_wp2
  go_ret
  exact ⟨rfl, HG.out, HS.out.mono (fun _ h => by cases h)⟩
end Go.Proofs.YtimpnnhadjfijaaDoor
