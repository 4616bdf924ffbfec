/-
  A Reader that fails: the deferred closures, and Num.
-/
import Derived.Test.YtekdkaiammebnaaDoorCodeText
namespace Go.Proofs.YtekdkaiammebnaaDoor
open Go.RowKit CodeMath

theorem numCatch_panicking (p b1 b2 : Nat) (u : TypeId) (pv : Value) (x : Bool) (y : Value) (older : List PanicEntry) (w : World) (h1 : w.cell? ⟨b1, 0, none⟩ = some (.pointer (some ⟨p, 0, none⟩))) (hx : w.cell? ⟨p, 1, none⟩ = some (.bool x)) (hz : w.frozen? ⟨p, 1, none⟩ = false)
    (h2 : w.cell? ⟨b2, 0, none⟩ = some y) (hz2 : w.frozen? ⟨b2, 0, none⟩ = false) (hne : ¬ b2 = p) :
    CallsD Tryd.prog 33 #[.pointer (some ⟨b1, 0, none⟩), .pointer (some ⟨b2, 0, none⟩)] (.panicking ({ v := .iface u pv, recovered := false } :: older)) w fun e u' w' =>
      e = .returned (.tuple #[]) ∧ u' = .panicking ({ v := .iface u pv, recovered := true } :: older) ∧ w' = (w.setCell ⟨p, 1, none⟩ (.bool true)).setCell ⟨b2, 0, none⟩ (.int .u64 0) := by
  have h2' : (w.setCell ⟨p, 1, none⟩ (.bool true)).cell? ⟨b2, 0, none⟩ = some y := (World.cell?_of_block (Below.heap_setCell w ⟨p, 1, none⟩ (.bool true) b2 hne)).trans h2
  have hz2' : (w.setCell ⟨p, 1, none⟩ (.bool true)).frozen? ⟨b2, 0, none⟩ = false := (World.frozen?_of_block (Below.heap_setCell w ⟨p, 1, none⟩ (.bool true) b2 hne)).trans hz2
  have H2 := Lib.hid h2
  have HZ2 := Lib.hid hz2
  clear h2 hz2
  refine callsD_of_wpS Tryd.func33 rfl fun c₀ cs hu => ?_
  apply wpS_seq
  apply wpS_region
  simp [wpOpsS, go_sem, recoverD, hu, Tryd.ntmps33, Exit.thenS]
  refine wpS_cond (t := true) (by simp [Act.eval, Array.replicate]) ?_
  simp only [if_true]
  apply wpS_seq
  apply wpS_region
  simp [wpOpsS, go_sem, h1, hx, hz, Exit.thenS]
  apply wpS_region
  simp [wpOpsS, go_sem, h2', hz2', bodyPostS, results, Tryd.results33]
theorem numCatch_idle (b1 b2 : Nat) (w : World) :
    CallsD Tryd.prog 33 #[.pointer (some ⟨b1, 0, none⟩), .pointer (some ⟨b2, 0, none⟩)] .returning w fun e u' w' => e = .returned (.tuple #[]) ∧ u' = .returning ∧ w' = w := by
  refine callsD_of_wpS Tryd.func33 rfl fun c₀ cs hu => ?_
  apply wpS_seq
  apply wpS_region
  simp [wpOpsS, go_sem, recoverD, hu, Tryd.ntmps33, Exit.thenS]
  refine wpS_cond (t := false) (by simp [Act.eval, Array.replicate]) ?_
  simp only [Bool.false_eq_true, if_false]
  refine wpS_of_wp (wp_skip ?_)
  cases c₀
  simp_all [bodyPostS, results, Tryd.results33]
theorem textCatch_panicking (p b1 b2 : Nat) (u : TypeId) (pv : Value) (x : Bool) (y : Value) (older : List PanicEntry) (w : World) (h1 : w.cell? ⟨b1, 0, none⟩ = some (.pointer (some ⟨p, 0, none⟩))) (hx : w.cell? ⟨p, 1, none⟩ = some (.bool x)) (hz : w.frozen? ⟨p, 1, none⟩ = false)
    (h2 : w.cell? ⟨b2, 0, none⟩ = some y) (hz2 : w.frozen? ⟨b2, 0, none⟩ = false) (hne : ¬ b2 = p) :
    CallsD Tryd.prog 35 #[.pointer (some ⟨b1, 0, none⟩), .pointer (some ⟨b2, 0, none⟩)] (.panicking ({ v := .iface u pv, recovered := false } :: older)) w fun e u' w' =>
      e = .returned (.tuple #[]) ∧ u' = .panicking ({ v := .iface u pv, recovered := true } :: older) ∧ w' = (w.setCell ⟨p, 1, none⟩ (.bool true)).setCell ⟨b2, 0, none⟩ (.slice none 0 0) := by
  have h2' : (w.setCell ⟨p, 1, none⟩ (.bool true)).cell? ⟨b2, 0, none⟩ = some y := (World.cell?_of_block (Below.heap_setCell w ⟨p, 1, none⟩ (.bool true) b2 hne)).trans h2
  have hz2' : (w.setCell ⟨p, 1, none⟩ (.bool true)).frozen? ⟨b2, 0, none⟩ = false := (World.frozen?_of_block (Below.heap_setCell w ⟨p, 1, none⟩ (.bool true) b2 hne)).trans hz2
  have H2 := Lib.hid h2
  have HZ2 := Lib.hid hz2
  clear h2 hz2
  refine callsD_of_wpS Tryd.func35 rfl fun c₀ cs hu => ?_
  apply wpS_seq
  apply wpS_region
  simp [wpOpsS, go_sem, recoverD, hu, Tryd.ntmps35, Exit.thenS]
  refine wpS_cond (t := true) (by simp [Act.eval, Array.replicate]) ?_
  simp only [if_true]
  apply wpS_seq
  apply wpS_region
  simp [wpOpsS, go_sem, h1, hx, hz, Exit.thenS]
  apply wpS_region
  simp [wpOpsS, go_sem, h2', hz2', bodyPostS, results, Tryd.results35]
theorem textCatch_idle (b1 b2 : Nat) (w : World) :
    CallsD Tryd.prog 35 #[.pointer (some ⟨b1, 0, none⟩), .pointer (some ⟨b2, 0, none⟩)] .returning w fun e u' w' => e = .returned (.tuple #[]) ∧ u' = .returning ∧ w' = w := by
  refine callsD_of_wpS Tryd.func35 rfl fun c₀ cs hu => ?_
  apply wpS_seq
  apply wpS_region
  simp [wpOpsS, go_sem, recoverD, hu, Tryd.ntmps35, Exit.thenS]
  refine wpS_cond (t := false) (by simp [Act.eval, Array.replicate]) ?_
  simp only [Bool.false_eq_true, if_false]
  refine wpS_of_wp (wp_skip ?_)
  cases c₀
  simp_all [bodyPostS, results, Tryd.results35]
theorem fieldsCatch_panicking (p b1 b2 : Nat) (u : TypeId) (pv : Value) (x : Bool) (y : Value) (older : List PanicEntry) (w : World) (h1 : w.cell? ⟨b1, 0, none⟩ = some (.pointer (some ⟨p, 0, none⟩))) (hx : w.cell? ⟨p, 1, none⟩ = some (.bool x)) (hz : w.frozen? ⟨p, 1, none⟩ = false)
    (h2 : w.cell? ⟨b2, 0, none⟩ = some y) (hz2 : w.frozen? ⟨b2, 0, none⟩ = false) (hne : ¬ b2 = p) :
    CallsD Tryd.prog 37 #[.pointer (some ⟨b1, 0, none⟩), .pointer (some ⟨b2, 0, none⟩)] (.panicking ({ v := .iface u pv, recovered := false } :: older)) w fun e u' w' =>
      e = .returned (.tuple #[]) ∧ u' = .panicking ({ v := .iface u pv, recovered := true } :: older) ∧ w' = (w.setCell ⟨p, 1, none⟩ (.bool true)).setCell ⟨b2, 0, none⟩ (.slice none 0 0) := by
  have h2' : (w.setCell ⟨p, 1, none⟩ (.bool true)).cell? ⟨b2, 0, none⟩ = some y := (World.cell?_of_block (Below.heap_setCell w ⟨p, 1, none⟩ (.bool true) b2 hne)).trans h2
  have hz2' : (w.setCell ⟨p, 1, none⟩ (.bool true)).frozen? ⟨b2, 0, none⟩ = false := (World.frozen?_of_block (Below.heap_setCell w ⟨p, 1, none⟩ (.bool true) b2 hne)).trans hz2
  have H2 := Lib.hid h2
  have HZ2 := Lib.hid hz2
  clear h2 hz2
  refine callsD_of_wpS Tryd.func37 rfl fun c₀ cs hu => ?_
  apply wpS_seq
  apply wpS_region
  simp [wpOpsS, go_sem, recoverD, hu, Tryd.ntmps37, Exit.thenS]
  refine wpS_cond (t := true) (by simp [Act.eval, Array.replicate]) ?_
  simp only [if_true]
  apply wpS_seq
  apply wpS_region
  simp [wpOpsS, go_sem, h1, hx, hz, Exit.thenS]
  apply wpS_region
  simp [wpOpsS, go_sem, h2', hz2', bodyPostS, results, Tryd.results37]
theorem fieldsCatch_idle (b1 b2 : Nat) (w : World) :
    CallsD Tryd.prog 37 #[.pointer (some ⟨b1, 0, none⟩), .pointer (some ⟨b2, 0, none⟩)] .returning w fun e u' w' => e = .returned (.tuple #[]) ∧ u' = .returning ∧ w' = w := by
  refine callsD_of_wpS Tryd.func37 rfl fun c₀ cs hu => ?_
  apply wpS_seq
  apply wpS_region
  simp [wpOpsS, go_sem, recoverD, hu, Tryd.ntmps37, Exit.thenS]
  refine wpS_cond (t := false) (by simp [Act.eval, Array.replicate]) ?_
  simp only [Bool.false_eq_true, if_false]
  refine wpS_of_wp (wp_skip ?_)
  cases c₀
  simp_all [bodyPostS, results, Tryd.results37]
end Go.Proofs.YtekdkaiammebnaaDoor
