/-
  A slice of fields that came in.
-/
import Derived.Test.YtjpmofnnjdhamaaGreatDoorMg30
import Derived.Test.YtjpmofnnjdhamaaGreatDoorMg38
import Derived.Test.YtjpmofnnjdhamaaGreatDoorMg39
namespace Go.Proofs.YtjpmofnnjdhamaaGreatDoor
open Go.ChangeShapes Go.WideShapes Go.ChangeAt Go.RowKit Go.Deep

/-- A slice of fields that came in. -/
theorem fields_open {H : Type} {enc : TypeId × Value → H} {W : World} {d : DataW H} {p : List MemPlace} {fuel : Nat} {a : Option Addr} {len cap : Nat}
    (hf : DataW.trod enc Tryz.prog W 0 (fun _ => true) true fuel 22 (Value.slice a len cap).cells.toList = some (d, p)) :
    ∃ fs : List (ByteArray × ByteArray), fs.length = len ∧ FieldsAt W a fs ∧ len ≤ maxLen ∧ len ≤ cap ∧ (a = none → cap = 0) ∧ ∀ j (h : j < fs.length), (fs[j]).1.size ≤ maxLen ∧ (fs[j]).2.size ≤ maxLen := by
  obtain ⟨h1, h2, h3, h4⟩ := structs_open Tryz.underlying22 Tryz.underlying59 (by kernel_rfl) (by kernel_rfl) (by decide) hf
  have hx : ∀ i : Fin len, ∃ f : ByteArray × ByteArray, (∃ b off, a = some ⟨b, off, none⟩ ∧ W.cell? ⟨b, off + i.val * 2, none⟩ = some (.string f.1) ∧ W.cell? ⟨b, off + i.val * 2 + 1, none⟩ = some (.string f.2)) ∧ f.1.size ≤ maxLen ∧ f.2.size ≤ maxLen := by
    intro i
    obtain ⟨b, off, ha, n, hj⟩ := h4 i.val i.isLt
    obtain ⟨v0, y0, hc0, ht0⟩ := hj 0 _ rfl
    obtain ⟨v1, y1, hc1, ht1⟩ := hj 1 _ rfl
    obtain ⟨s0, e0, _, z0⟩ := DataW.trod_string Tryz.underlying9 ht0
    obtain ⟨s1, e1, _, z1⟩ := DataW.trod_string Tryz.underlying9 ht1
    injection e0 with e0 _
    injection e1 with e1 _
    subst e0; subst e1
    exact ⟨(s0, s1), ⟨b, off, ha, hc0, hc1⟩, z0, z1⟩
  refine ⟨List.ofFn fun i => Classical.choose (hx i), by simp, ?_, h1, h2, h3, ?_⟩
  · intro k hk
    have hk' : k < len := by simpa using hk
    obtain ⟨⟨b, off, ha, hb, hc⟩, _⟩ := Classical.choose_spec (hx ⟨k, hk'⟩)
    exact ⟨b, off, ha, by simpa using hb, by simpa using hc⟩
  · intro j hj
    have hj' : j < len := by simpa using hj
    have := (Classical.choose_spec (hx ⟨j, hj'⟩)).2
    simpa using this
theorem fields_of_trod {H : Type} {enc : TypeId × Value → H} {W : World} {v : Value} {y : DataW H × List MemPlace} {fuel : Nat}
    (hf : DataW.trod enc Tryz.prog W 0 (fun _ => true) true fuel 22 [v] = some y) :
    ∃ (fs : List (ByteArray × ByteArray)) (a : Option Addr) (c : Nat), v = .slice a fs.length c ∧ FieldsAt W a fs ∧ fs.length ≤ maxLen ∧ fs.length ≤ c ∧ (a = none → c = 0) ∧ ∀ j (h : j < fs.length), (fs[j]).1.size ≤ maxLen ∧ (fs[j]).2.size ≤ maxLen := by
  obtain ⟨d, p⟩ := y
  have hs : ∃ a n c, v = .slice a n c := by
    rcases Deep.open_slice Tryz.underlying22 hf with ⟨hcs, _⟩ | ⟨x, len', cap', m, n, D, Pl, hcs, _⟩
    · injection hcs with hcs; exact ⟨_, _, _, hcs⟩
    · injection hcs with hcs; exact ⟨_, _, _, hcs⟩
  obtain ⟨a, n, c, rfl⟩ := hs
  obtain ⟨fs, rfl, h1, h2, h3, h4, h5⟩ := fields_open (a := a) (len := n) (cap := c) (d := d) (p := p) (by simpa [Value.cells] using hf)
  exact ⟨fs, a, c, rfl, h1, h2, h3, h4, h5⟩
end Go.Proofs.YtjpmofnnjdhamaaGreatDoor
