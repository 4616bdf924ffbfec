/-
  slices.Clone of bytes; a new Writer; what a Writer tells.
-/
import Derived.Test.YtekdkaiammebnaaDoorCodeWriter
namespace Go.Proofs.YtekdkaiammebnaaDoor
open Go.RowKit CodeMath

/-- A fresh row of the call's own with the bytes l. -/
def Cloned (l : List UInt8) (w : World) (e : Ending) (w' : World) : Prop := ∃ a c, e = .returned (.slice a l.length c) ∧ OwnBytes w' (.slice a l.length c) l ∧ Spares nowhere w w' ∧ ∀ g, (Value.slice a l.length c).ownBlock = some g → w.heap.size ≤ g

theorem own_empty (w : World) : OwnBytes (w.alloc (.cells #[] 5)) (.slice (some ⟨w.heap.size, 0, none⟩) 0 0) [] :=
  ⟨rfl, .inr ⟨w.heap.size, 0, #[], rfl, Nat.zero_le _, heap_alloc_new w _, Nat.le_refl _, by decide, rfl, rfl⟩⟩
set_option maxRecDepth 100000 in
set_option maxHeartbeats 400000 in
theorem clone_any (l : List UInt8) (a : Option Addr) (c : Nat) (w : World) (hat : BytesAt w a l) (hnil : a = none → c = 0) (hl : l.length ≤ 140737488355328) :
    Calls Tryd.prog 32 #[.slice a l.length c] w (Cloned l w) := by
  have HAT := Lib.hid hat
  have HN := Lib.hid hnil
  clear hat hnil
  cases a with
  | none =>
    obtain rfl : l = [] := by
      cases l with
      | nil => rfl
      | cons y l => obtain ⟨_, _, e, _⟩ := HAT.out 0 (by simp); cases e
    obtain rfl := HN.out rfl
    have q : ∀ w : World, (binOp .eql 27 (.slice none 0 0) (.slice none 0 0)).run Tryd.prog w = .ok (.bool true) w := fun w => Lib.run_eql_slice_nil w _ _ none 0 0 0 0 Tryd.underlying27
    go_enter Tryd.func32, Tryd.ntmps32
    go_wp2
    go_ret
    exact ⟨none, 0, rfl, ownBytes_nil w, Spares.refl _ _, fun g hg => by cases hg⟩
  | some ad =>
    have q : ∀ w : World, (binOp .eql 27 (.slice (some ad) l.length c) (.slice none 0 0)).run Tryd.prog w = .ok (.bool false) w := fun w => Lib.run_eql_slice_nil w _ _ (some ad) _ _ 0 0 Tryd.underlying27
    go_enter Tryd.func32, Tryd.ntmps32
    go_wp2_with (at_builtin; refine wpList_append_bytes rfl _ _ rfl _ [] rfl (own_empty w) (some ad) c l rfl (HAT.out.spares (F := nowhere) ((Spares.refl _ _).alloc _) (fun _ _ _ h => h)) (fun e => by cases e) ?c1 ?_)
    case c1 => simpa using hl
    intro ao c' w1 ho hg hf
    have HO := Lib.hid ho
    have HG := Lib.hid hg
    have HF := Lib.hid hf
    clear ho hg hf
    go_wp2
    go_ret
    refine ⟨ao, c', by simp, by simpa using HO.out, ((Spares.refl _ _).alloc _).grown HG.out (fun k hk => .inr ?_), fun g hg => ?_⟩
    · simp [Value.ownBlock] at hk; omega
    · rcases HF.out g (by simpa using hg) with h | h
      · simp [Value.ownBlock] at h; omega
      · omega

def Written (p : Nat) (w : World) (e : Ending) (w' : World) : Prop := e = .returned (.pointer (some ⟨p, 0, none⟩)) ∧ p = w.heap.size ∧ IsW (fun k => k = p) p [] w' ∧ Spares nowhere w w'
theorem newWriter_any (w : World) : Calls Tryd.prog 10 #[] w (Written w.heap.size w) := by
  go_enter Tryd.func10, Tryd.ntmps10
  go_wp2
  go_ret
  exact ⟨rfl, rfl, ⟨rfl, fun k hk => by subst hk; simp, .slice none 0 0, heap_alloc_new w _, ownBytes_nil _, fun g hg => by cases hg⟩, (Spares.refl _ _).alloc _⟩

set_option maxHeartbeats 400000 in
theorem wBytes_any (F : Nat → Prop) (p : Nat) (d : List UInt8) (w : World) (h : IsW F p d w) (hd : d.length ≤ 140737488355328) :
    Calls Tryd.prog 18 #[.pointer (some ⟨p, 0, none⟩)] w (Cloned d w) := by
  obtain ⟨hF1, hF2, v, hv, hown, hF3⟩ := h
  have HO := Lib.hid hown
  have hcell : w.cell? ⟨p, 0, none⟩ = some v := by rw [Lib.cell_of_heap hv]; rfl
  obtain ⟨a, c, rfl, hat, hnil⟩ := hown.shape
  have HA := Lib.hid hat
  have HN := Lib.hid hnil
  clear hF1 hF2 hv hown hF3 hat hnil
  go_enter Tryd.func18, Tryd.ntmps18
  go_wp2_with fail
  refine (clone_any d a c _ HA.out HN.out hd).mono ?_
  rintro e w1 ⟨a1, c1, rfl, ho, hs, hf⟩
  have HO1 := Lib.hid ho
  have HS1 := Lib.hid hs
  have HF1 := Lib.hid hf
  clear ho hs hf
  go_wp2
  go_ret
  exact ⟨a1, c1, rfl, HO1.out, HS1.out, HF1.out⟩
end Go.Proofs.YtekdkaiammebnaaDoor
