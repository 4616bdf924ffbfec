/-
  conf.Parse: the closure that recovers.
-/
import Derived.Test.YtjdiaighfhljgaaDoorConfRead3
namespace Go.Proofs.YtjdiaighfhljgaaDoor
open Go.RowKit GlobMath DateMath

def zeroConf : Array Value := #[.slice none 0 0, .bool false, .string ⟨#[]⟩, .int .i64 0]
theorem confInfo : (Tryd.prog.info? 27).map (·.size) = some 4 := by kernel_rfl
theorem assert_nil (w : World) : (Instr.typeAssert Value.nilIface 20 36 true).run Tryd.prog w = .ok (.tuple #[.agg #[], .bool false]) w := by kernel_rfl
theorem assert_fault (w : World) : (Instr.typeAssert (.iface 36 (.agg #[])) 20 36 true).run Tryd.prog w = .ok (.tuple #[.agg #[], .bool true]) w := by kernel_rfl
set_option maxHeartbeats 1000000 in
theorem catch_idle (p q : Nat) (w : World) :
    CallsD Tryd.prog 9 #[.pointer (some ⟨p, 0, none⟩), .pointer (some ⟨q, 0, none⟩)] .returning w fun e u' w' => e = .returned (.tuple #[]) ∧ u' = .returning ∧ Spares nowhere w w' := by
  refine callsD_of_wpS Tryd.func9 rfl fun c₀ cs hu => ?_
  apply wpS_seq
  apply wpS_region
  simp [wpOpsS, go_sem, recoverD, hu, assert_nil, Tryd.ntmps9, Exit.thenS]
  apply wpS_seq
  apply wpS_region
  simp [wpOpsS, go_sem, Exit.thenS]
  refine wpS_cond (t := false) (by simp [Act.eval, Array.replicate]) ?_
  simp only [Bool.false_eq_true, if_false]
  refine wpS_of_wp (wp_skip ?_)
  have hsp := (Spares.refl nowhere w).alloc (.cells #[] 36)
  cases c₀
  simp_all [bodyPostS, results, Tryd.results9]
set_option maxHeartbeats 1000000 in
theorem catch_panicking (p q : Nat) (older : List PanicEntry) (w : World) (a b c d y : Value) (hne : ¬ q = p)
    (hp : w.heap[p]? = some (.cells #[a, b, c, d] 27 (0, 0))) (hq : w.heap[q]? = some (.cells #[y] 28 (0, 0))) :
    CallsD Tryd.prog 9 #[.pointer (some ⟨p, 0, none⟩), .pointer (some ⟨q, 0, none⟩)] (.panicking ({ v := .iface 36 (.agg #[]), recovered := false } :: older)) w fun e u' w' =>
      e = .returned (.tuple #[]) ∧ u' = .panicking ({ v := .iface 36 (.agg #[]), recovered := true } :: older) ∧
      w'.heap[p]? = some (.cells zeroConf 27 (0, 0)) ∧ w'.heap[q]? = some (.cells #[.int .i64 124] 28 (0, 0)) ∧ Spares (fun k => k = p ∨ k = q) w w' := by
  have hsp := (Spares.refl nowhere w).alloc (.cells #[] 36)
  obtain ⟨v1, hv1⟩ : ∃ v1, w.alloc (.cells #[] 36) = v1 := ⟨_, rfl⟩
  rw [hv1] at hsp
  have hp1 := hsp.heap hp (fun h => h)
  have hq1 := hsp.heap hq (fun h => h)
  have hset : ∀ (u : World) (i : Nat) (x : Value) (cs : Array Value), u.heap[p]? = some (.cells cs 27 (0, 0)) → (u.setCell ⟨p, i, none⟩ x).heap[p]? = some (.cells (cs.setIfInBounds i x) 27 (0, 0)) := fun u i x cs h => by
    simp [World.setCell, Array.getElem?_modify, h]
  have hk : ∀ (u : World) (i : Nat) (x : Value) (o : Option Obj), u.heap[q]? = o → (u.setCell ⟨p, i, none⟩ x).heap[q]? = o := fun u i x o h => (Below.heap_setCell u ⟨p, i, none⟩ x q hne).trans h
  have p1 := hset v1 0 (.slice none 0 0) _ hp1
  have p2 := hset _ 1 (.bool false) _ p1
  have p3 := hset _ 2 (.string ⟨#[]⟩) _ p2
  have p4 := hset _ 3 (.int .i64 0) _ p3
  have q4 := hk _ 3 (.int .i64 0) _ (hk _ 2 (.string ⟨#[]⟩) _ (hk _ 1 (.bool false) _ (hk v1 0 (.slice none 0 0) _ hq1)))
  have f0 : ∀ {u : World} {b : Nat} {cs : Array Value} {t : TypeId}, u.heap[b]? = some (.cells cs t (0, 0)) → ∀ i, u.frozen? ⟨b, i, none⟩ = false := fun h i => Lib.frozen_of_heap h i
  have c0 : ∀ {u : World} {b : Nat} {cs : Array Value} {t : TypeId}, u.heap[b]? = some (.cells cs t (0, 0)) → ∀ i, u.cell? ⟨b, i, none⟩ = cs[i]? := fun h i => Lib.cell_of_heap h i
  have a1 := c0 hp1 0
  have a2 := c0 p1 1
  have a3 := c0 p2 2
  have a4 := c0 p3 3
  have a5 := c0 q4 0
  have b1 := f0 hp1 0
  have b2 := f0 p1 1
  have b3 := f0 p2 2
  have b4 := f0 p3 3
  have b5 := f0 q4 0
  refine callsD_of_wpS Tryd.func9 rfl fun c₀ cs hu => ?_
  apply wpS_seq
  apply wpS_region
  simp [wpOpsS, go_sem, recoverD, hu, assert_fault, Tryd.ntmps9, Exit.thenS]
  apply wpS_seq
  apply wpS_region
  simp [wpOpsS, go_sem, Exit.thenS]
  refine wpS_cond (t := true) (by simp [Act.eval, Array.replicate]) ?_
  simp only [if_true]
  rw [hv1]
  apply wpS_region
  simp at a1 a2 a3 a4 a5
  simp [wpOpsS, go_sem, a1, a2, a3, a4, a5, b1, b2, b3, b4, b5]
  obtain ⟨v5, hv5⟩ : ∃ v5, ((((v1.setCell ⟨p, 0, none⟩ (.slice none 0 0)).setCell ⟨p, 1, none⟩ (.bool false)).setCell ⟨p, 2, none⟩ (.string ⟨#[]⟩)).setCell ⟨p, 3, none⟩ (.int .i64 0)).setCell ⟨q, 0, none⟩ (.int .i64 124) = v5 := ⟨_, rfl⟩
  have r1 : v5.heap[p]? = some (.cells zeroConf 27 (0, 0)) := by
    rw [← hv5, Below.heap_setCell _ ⟨q, 0, none⟩ _ p (fun e => hne e.symm), p4]; rfl
  have r2 : v5.heap[q]? = some (.cells #[.int .i64 124] 28 (0, 0)) := by
    rw [← hv5]
    simp only [World.setCell] at q4 ⊢
    simp [Array.getElem?_modify] at q4 ⊢
    simp [q4]
  have r3 : Spares (fun k => k = p ∨ k = q) w v5 := by
    rw [← hv5]
    exact ((((((hsp.mono (F' := fun k => k = p ∨ k = q) (fun _ h => by cases h)).setCell (p := ⟨p, 0, none⟩) (.inl (.inl rfl)) _).setCell (p := ⟨p, 1, none⟩) (.inl (.inl rfl)) _).setCell (p := ⟨p, 2, none⟩) (.inl (.inl rfl)) _).setCell (p := ⟨p, 3, none⟩) (.inl (.inl rfl)) _).setCell (p := ⟨q, 0, none⟩) (.inl (.inr rfl)) _)
  rw [hv5]
  simp [bodyPostS, results, Tryd.results9]
  exact ⟨r1, r2, r3⟩
end Go.Proofs.YtjdiaighfhljgaaDoor
