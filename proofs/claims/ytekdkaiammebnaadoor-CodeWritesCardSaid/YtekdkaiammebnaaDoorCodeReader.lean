/-
  Package code's Reader, and the calls inside it, which panic where nothing can be read.
-/
import Derived.Test.YtekdkaiammebnaaDoorCodeClone
import Derived.Defers
import Derived.Recover
namespace Go.Proofs.YtekdkaiammebnaaDoor
open Go.RowKit CodeMath

/-- The Reader in block p has l still to read; its bytes lie in a block of F. -/
def IsR (F : Nat → Prop) (p : Nat) (l : List UInt8) (failed : Bool) (w : World) : Prop :=
  F p ∧ (∀ k, F k → k < w.heap.size) ∧ ∃ a c, w.heap[p]? = some (.cells #[.slice a l.length c, .bool failed] 66 (0, 0)) ∧ BytesAt w a l ∧ (a = none ∧ c = 0 ∨ ∃ b off, a = some ⟨b, off, none⟩) ∧ l.length ≤ c ∧ ∀ b off, a = some ⟨b, off, none⟩ → F b ∧ b ≠ p
theorem IsR.spares {F G : Nat → Prop} {p : Nat} {l : List UInt8} {f : Bool} {w w' : World} (h : IsR F p l f w) (hs : Spares G w w') (hn : ∀ k, F k → ¬ G k) : IsR F p l f w' := by
  obtain ⟨h1, h2, a, c, h3, h4, h5, h6, h7⟩ := h
  exact ⟨h1, fun k hk => Nat.lt_of_lt_of_le (h2 k hk) hs.size, a, c, hs.heap h3 (hn _ h1), h4.spares hs (fun b off e => hn b (h7 b off e).1), h5, h6, h7⟩
theorem IsR.alloc {F : Nat → Prop} {p : Nat} {l : List UInt8} {f : Bool} {w : World} (h : IsR F p l f w) (o : Obj) : IsR F p l f (w.alloc o) :=
  h.spares (G := nowhere) ((Spares.refl _ _).alloc o) (fun _ _ h => h)
/-- What is behind the first k bytes is left; whether it failed is told anew. -/
theorem IsR.step {F : Nat → Prop} {p k : Nat} {l : List UInt8} {a a' : Option Addr} {c c' : Nat} {f : Bool} {w : World} (h1 : F p) (h2 : ∀ k, F k → k < w.heap.size)
    (h3 : w.heap[p]? = some (.cells #[.slice a l.length c, .bool f] 66 (0, 0))) (h4 : BytesAt w a' (l.drop k)) (h5 : a' = none ∧ c' = 0 ∨ ∃ b off, a' = some ⟨b, off, none⟩) (h6 : (l.drop k).length ≤ c') (h7 : ∀ b off, a' = some ⟨b, off, none⟩ → F b ∧ b ≠ p) :
    IsR F p (l.drop k) f (w.setCell ⟨p, 0, none⟩ (.slice a' (l.drop k).length c')) ∧ Spares (fun b => b = p) w (w.setCell ⟨p, 0, none⟩ (.slice a' (l.drop k).length c')) := by
  have hs : Spares (fun b => b = p) w (w.setCell ⟨p, 0, none⟩ (.slice a' (l.drop k).length c')) := Spares.setCell (F := fun b => b = p) (Spares.refl _ w) (p := ⟨p, 0, none⟩) (.inl rfl) _
  exact ⟨⟨h1, fun k hk => Nat.lt_of_lt_of_le (h2 k hk) hs.size, a', c', heap_set h3 0 _, h4.spares hs (fun b off e => (h7 b off e).2), h5, h6, h7⟩, hs⟩
theorem bytesAt_drop {w : World} {b off k : Nat} {l : List UInt8} (h : BytesAt w (some ⟨b, off, none⟩) l) : BytesAt w (some ⟨b, off + k, none⟩) (l.drop k) := by
  intro j hj
  have hj' : k + j < l.length := by simp at hj; omega
  obtain ⟨b', off', e, hc⟩ := h (k + j) hj'
  injection e with e
  injection e with e1 e2 e3
  subst e1; subst e2
  exact ⟨_, _, rfl, by rw [List.getElem_drop, Nat.add_assoc]; exact hc⟩
theorem bytesAt_take {w : World} {a : Option Addr} {l : List UInt8} (k : Nat) (h : BytesAt w a l) : BytesAt w a (l.take k) := by
  intro j hj
  have hj' : j < l.length := by simp at hj; omega
  obtain ⟨b', off', e, hc⟩ := h j hj'
  exact ⟨_, _, e, by rw [List.getElem_take]; exact hc⟩

def Fell (w : World) (e : Ending) (w' : World) : Prop := e = .panicked [{ v := .iface 71 (.agg #[]), recovered := false }] ∧ w = w'
def Byte (F : Nat → Prop) (p : Nat) (x : UInt8) (t : List UInt8) (w : World) (e : Ending) (w' : World) : Prop := e = .returned (.int .u8 x.toNat) ∧ IsR F p t false w' ∧ Spares (fun b => b = p) w w'

set_option maxHeartbeats 400000 in
theorem next_failed (F : Nat → Prop) (p : Nat) (l : List UInt8) (w : World) (h : IsR F p l true w) :
    Calls Tryd.prog 39 #[.pointer (some ⟨p, 0, none⟩)] w (Fell w) := by
  obtain ⟨h1, h2, a, c, h3, h4, h5, h6, h7⟩ := h
  have c0 : w.cell? ⟨p, 0, none⟩ = some (.slice a l.length c) := by rw [Lib.cell_of_heap h3]; rfl
  have c1 : w.cell? ⟨p, 1, none⟩ = some (.bool true) := by rw [Lib.cell_of_heap h3]; rfl
  clear h1 h2 h3 h4 h5 h6 h7
  go_enter Tryd.func39, Tryd.ntmps39
  go_wp2
  exact ⟨rfl, rfl, rfl⟩
set_option maxHeartbeats 400000 in
theorem next_end (F : Nat → Prop) (p : Nat) (f : Bool) (w : World) (h : IsR F p [] f w) :
    Calls Tryd.prog 39 #[.pointer (some ⟨p, 0, none⟩)] w (Fell w) := by
  cases f with
  | true => exact next_failed F p [] w h
  | false =>
    obtain ⟨h1, h2, a, c, h3, h4, h5, h6, h7⟩ := h
    have c0 : w.cell? ⟨p, 0, none⟩ = some (.slice a 0 c) := by rw [Lib.cell_of_heap h3]; rfl
    have c1 : w.cell? ⟨p, 1, none⟩ = some (.bool false) := by rw [Lib.cell_of_heap h3]; rfl
    clear h1 h2 h3 h4 h5 h6 h7
    go_enter Tryd.func39, Tryd.ntmps39
    go_wp2
    exact ⟨rfl, rfl, rfl⟩
theorem next_none (F : Nat → Prop) (p : Nat) (l : List UInt8) (f : Bool) (w : World) (h : IsR F p l f w) (hn : f = true ∨ l = []) :
    Calls Tryd.prog 39 #[.pointer (some ⟨p, 0, none⟩)] w (Fell w) := by
  rcases hn with rfl | rfl
  · exact next_failed F p l w h
  · exact next_end F p f w h

set_option maxHeartbeats 400000 in
theorem next_some (F : Nat → Prop) (p : Nat) (x : UInt8) (t : List UInt8) (w : World) (h : IsR F p (x :: t) false w) (hl : t.length ≤ 140737488355328) :
    Calls Tryd.prog 39 #[.pointer (some ⟨p, 0, none⟩)] w (Byte F p x t w) := by
  obtain ⟨h1, h2, a, c, h3, h4, h5, h6, h7⟩ := h
  obtain ⟨b, off, rfl, hx⟩ := h4 0 (by simp)
  have hn : (x :: t).length = t.length + 1 := rfl
  have c0 : w.cell? ⟨p, 0, none⟩ = some (.slice (some ⟨b, off, none⟩) (t.length + 1) c) := by rw [Lib.cell_of_heap h3]; rfl
  have c1 : w.cell? ⟨p, 1, none⟩ = some (.bool false) := by rw [Lib.cell_of_heap h3]; rfl
  have fz : w.frozen? ⟨p, 0, none⟩ = false := Lib.frozen_of_heap h3 0
  have hx' : w.cell? ⟨b, off, none⟩ = some (.int .u8 x.toNat) := hx
  have hg : decide (t.length + 1 = 0) = false := by simp
  rw [hn] at h6
  have HH := Lib.hid h3
  have HA := Lib.hid h4
  have H1 := Lib.hid h1
  have H2 := Lib.hid h2
  have H7 := Lib.hid h7
  clear h1 h2 h3 h4 h5 h7 hx hn
  by_cases hc : c = 1
  · subst hc
    obtain rfl : t = [] := List.eq_nil_of_length_eq_zero (by omega)
    go_enter Tryd.func39, Tryd.ntmps39
    go_wp2
    go_ret
    have e : Hid _ := Lib.hid (IsR.step (k := 1) (l := [x]) (a := some ⟨b, off, none⟩) (a' := some ⟨b, off, none⟩) (c := 1) (c' := 0) (f := false) H1.out H2.out HH.out (bytesAt_nil w _) (.inr ⟨_, _, rfl⟩) (Nat.le_refl _) H7.out)
    exact ⟨rfl, e.out⟩
  · go_enter Tryd.func39, Tryd.ntmps39
    go_wp2
    go_ret
    have e : Hid _ := Lib.hid (IsR.step (k := 1) (l := x :: t) (a := some ⟨b, off, none⟩) (a' := some ⟨b, off + 1, none⟩) (c := c) (c' := c - 1) (f := false) H1.out H2.out HH.out (bytesAt_drop HA.out) (.inr ⟨_, _, rfl⟩) (by simp; omega) (fun b' o' e => H7.out b' off (by injection e with e; injection e with e _ _; rw [e])))
    exact ⟨rfl, e.out⟩
end Go.Proofs.YtekdkaiammebnaaDoor
