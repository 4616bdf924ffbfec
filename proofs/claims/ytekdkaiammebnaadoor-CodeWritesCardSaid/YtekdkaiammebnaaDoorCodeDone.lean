/-
  A new Reader; whether all was read; bytes held against bytes.
-/
import Derived.Test.YtekdkaiammebnaaDoorCodeRead
import Derived.Lib.ConvBytes
namespace Go.Proofs.YtekdkaiammebnaaDoor
open Go.RowKit CodeMath

def Opened (l : List UInt8) (w : World) (e : Ending) (w' : World) : Prop := ∃ p F, e = .returned (.pointer (some ⟨p, 0, none⟩)) ∧ IsR F p l false w' ∧ Spares nowhere w w' ∧ ∀ k, F k → w.heap.size ≤ k
set_option maxHeartbeats 400000 in
theorem newReader_any (l : List UInt8) (a : Option Addr) (c : Nat) (w : World) (hat : BytesAt w a l) (hnil : a = none → c = 0) (hl : l.length ≤ 140737488355328) :
    Calls Tryd.prog 19 #[.slice a l.length c] w (Opened l w) := by
  have HA := Lib.hid hat
  have HN := Lib.hid hnil
  clear hat hnil
  go_enter Tryd.func19, Tryd.ntmps19
  go_wp2_with fail
  refine (clone_any l a c _ HA.out HN.out hl).mono ?_
  rintro e w1 ⟨a1, c1, rfl, ho, hs, hf⟩
  have HO := Lib.hid ho
  have HS := Lib.hid hs
  have HF := Lib.hid hf
  clear ho hs hf
  go_wp2
  go_ret
  have hsz := HS.out.size
  have hcc : l.length ≤ c1 ∧ (a1 = none ∧ c1 = 0 ∨ ∃ b off, a1 = some ⟨b, off, none⟩ ∧ b < w1.heap.size ∧ w.heap.size ≤ b) := by
    rcases HO.out.2 with ⟨hv, hn⟩ | ⟨g, cap, cur, hv, _, hg, hle, _⟩
    · injection hv with e1 e2 e3
      exact ⟨by omega, .inl ⟨e1, e3⟩⟩
    · injection hv with e1 e2 e3
      refine ⟨by omega, .inr ⟨g, 0, e1, (Array.getElem?_eq_some_iff.1 hg).1, HF.out g (by rw [e1]; rfl)⟩⟩
  refine ⟨w1.heap.size, fun k => k = w1.heap.size ∨ (Value.slice a1 l.length c1).ownBlock = some k, rfl, ⟨.inl rfl, ?_, a1, c1, heap_alloc_new w1 _, ?_, ?_, hcc.1, ?_⟩, HS.out.alloc _, ?_⟩
  · rintro k (rfl | hk)
    · simp
    · have := HO.out.lt k hk; simp; omega
  · obtain ⟨a2, c2, e, hat, _⟩ := HO.out.shape
    injection e with e _ _
    rw [e]
    exact hat.spares (F := nowhere) ((Spares.refl _ _).alloc _) (fun _ _ _ h => h)
  · rcases hcc.2 with h | ⟨b, off, h, _⟩
    · exact .inl h
    · exact .inr ⟨b, off, h⟩
  · intro b off e
    rcases hcc.2 with ⟨h, _⟩ | ⟨b', off', h, hlt, _⟩
    · rw [h] at e; cases e
    · rw [h] at e
      injection e with e
      injection e with e1 e2 e3
      subst e1
      exact ⟨.inr (by rw [h]; rfl), by omega⟩
  · rintro k (rfl | hk)
    · exact hsz
    · exact HF.out k hk

def Told (n : Nat) (w : World) (e : Ending) (w' : World) : Prop := e = .returned (.int .i64 n) ∧ w = w'
theorem done_failed (F : Nat → Prop) (p : Nat) (l : List UInt8) (w : World) (h : IsR F p l true w) : Calls Tryd.prog 24 #[.pointer (some ⟨p, 0, none⟩)] w (Told 20 w) := by
  have x1 := h.fail.1
  clear h
  go_enter Tryd.func24, Tryd.ntmps24
  go_wp2
  go_ret
  exact ⟨rfl, rfl⟩
theorem done_good (F : Nat → Prop) (p : Nat) (l : List UInt8) (w : World) (h : IsR F p l false w) (hl : l.length ≤ 140737488355328) : Calls Tryd.prog 24 #[.pointer (some ⟨p, 0, none⟩)] w (Told (doneF (some l)) w) := by
  have x1 := h.fail.1
  obtain ⟨_, _, a, c, h3, _⟩ := h
  have c0 : w.cell? ⟨p, 0, none⟩ = some (.slice a l.length c) := by rw [Lib.cell_of_heap h3]; rfl
  clear h3
  cases l with
  | nil =>
    replace c0 : w.cell? ⟨p, 0, none⟩ = some (.slice a 0 c) := c0
    go_enter Tryd.func24, Tryd.ntmps24
    go_wp2
    go_ret
    exact ⟨rfl, rfl⟩
  | cons x t =>
    replace c0 : w.cell? ⟨p, 0, none⟩ = some (.slice a (t.length + 1) c) := c0
    replace hl : t.length + 1 ≤ 140737488355328 := hl
    go_enter Tryd.func24, Tryd.ntmps24
    go_wp2
    go_ret
    exact ⟨rfl, rfl⟩
theorem done_any (F : Nat → Prop) (p : Nat) (s : Option (List UInt8)) (w : World) (h : IsRS F p s w) (hl : ∀ l, s = some l → l.length ≤ 140737488355328) :
    Calls Tryd.prog 24 #[.pointer (some ⟨p, 0, none⟩)] w (Told (doneF s) w) := by
  cases s with
  | some l => exact done_good F p l w h (hl l rfl)
  | none => obtain ⟨l, h⟩ := h; exact done_failed F p l w h
end Go.Proofs.YtekdkaiammebnaaDoor
