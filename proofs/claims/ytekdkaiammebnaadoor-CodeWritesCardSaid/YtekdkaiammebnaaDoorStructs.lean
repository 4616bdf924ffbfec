/-
  A slice of structs of one-cell fields that came in: each field's cell, and its own reading; a slice of fields.
-/
import Derived.Test.YtekdkaiammebnaaDoorLaidInts
import Derived.Test.YtekdkaiammebnaaDoorFieldRows
import Derived.Deep.Slices
import Derived.Deep.Fields
import Derived.ChangeSame
namespace Go.Proofs.YtekdkaiammebnaaDoor
open Go.ChangeShapes Go.WideShapes Go.ChangeAt Go.RowKit Go.Deep

/-- A struct's cells that lie from o on in block b of W: each field of one cell, read at its own type. -/
theorem cellsOf_struct {H : Type} {enc : TypeId × Value → H} {P : Program} {W : World} {e : TypeId} {fs : Array Field} {n b o : Nat} {cs : List Value} {x : DataW H × List MemPlace}
    (he : P.underlying e = some (.struct fs)) (hone : oneCellFields P fs = true)
    (hcs : ∀ j, j < fs.size → W.cell? ⟨b, o + j, none⟩ = cs[j]?) (hl : cs.length = fs.size) (hf : DataW.trod enc P W 0 (fun _ => true) true n e cs = some x) :
    ∃ n', ∀ j f, fs[j]? = some f → ∃ v y, W.cell? ⟨b, o + j, none⟩ = some v ∧ DataW.trod enc P W 0 (fun _ => true) true n' f.type [v] = some y := by
  obtain ⟨ys, n', _, _, _, hyl, hy⟩ := DataW.trod_struct he hf
  refine ⟨n', fun j f hj => ?_⟩
  have hjl : j < fs.size := (Array.getElem?_eq_some_iff.1 hj).1
  obtain ⟨h1, h2⟩ := hone_of hone j f hj
  have h3 := hy j f hj
  rw [h1, h2, List.drop_eq_getElem_cons (by omega : j < cs.length)] at h3
  refine ⟨cs[j]'(by omega), ys[j]'(by omega), ?_, ?_⟩
  · rw [hcs j hjl]; exact List.getElem?_eq_getElem _
  · exact h3.trans (List.getElem?_eq_getElem _)
theorem structs_open {H : Type} {enc : TypeId × Value → H} {P : Program} {W : World} {t e : TypeId} {fs : Array Field} {d : DataW H} {p : List MemPlace} {fuel : Nat} {a : Option Addr} {len cap : Nat}
    (ht : P.underlying t = some (.slice e)) (he : P.underlying e = some (.struct fs)) (hone : oneCellFields P fs = true) (hC : P.cellsOf e = fs.size) (hpos : 0 < fs.size)
    (hf : DataW.trod enc P W 0 (fun _ => true) true fuel t (Value.slice a len cap).cells.toList = some (d, p)) :
    len ≤ maxLen ∧ len ≤ cap ∧ (a = none → cap = 0) ∧ ∀ i, i < len → ∃ b off, a = some ⟨b, off, none⟩ ∧ ∃ n, ∀ j f, fs[j]? = some f → ∃ v y, W.cell? ⟨b, off + i * fs.size + j, none⟩ = some v ∧ DataW.trod enc P W 0 (fun _ => true) true n f.type [v] = some y := by
  rcases Deep.open_slice ht hf with ⟨hcs, _⟩ | ⟨x, len', cap', m, n, D, Pl, hcs, _, hl, hm, hmm, _, hx⟩
  · simp [Value.cells] at hcs
    obtain ⟨rfl, rfl, rfl⟩ := hcs
    exact ⟨Nat.zero_le _, Nat.le_refl _, fun _ => rfl, fun i h => absurd h (Nat.not_lt_zero _)⟩
  · simp [Value.cells] at hcs
    obtain ⟨rfl, rfl, rfl⟩ := hcs
    simp only [if_true] at hmm
    subst hmm
    refine ⟨by omega, hl, (fun e => by cases e), fun i hi => ?_⟩
    obtain ⟨cs', hc, hT⟩ := hx i (by omega)
    rw [hC] at hc
    obtain ⟨_, hlen, hat⟩ := World.cells?_some hc
    obtain ⟨b, off, spot⟩ := x
    have hspot : spot = none := by
      obtain ⟨cs0, hc0, _⟩ := hx 0 (by omega)
      rw [hC, Nat.zero_mul] at hc0
      obtain ⟨_, hlen0, hat0⟩ := World.cells?_some hc0
      have h1 := hat0 0 hpos
      rw [List.getElem?_eq_getElem (by omega)] at h1
      simpa [Addr.add] using World.cell?_spot h1
    subst hspot
    refine ⟨b, off, rfl, ?_⟩
    refine cellsOf_struct he hone (cs := cs') (fun j hj => ?_) hlen hT
    have h1 := hat j hj
    rw [Addr.add_lit, Addr.add_lit] at h1
    exact h1
/-- A slice of fields that came in. -/
theorem fields_open {H : Type} {enc : TypeId × Value → H} {W : World} {d : DataW H} {p : List MemPlace} {fuel : Nat} {a : Option Addr} {len cap : Nat}
    (hf : DataW.trod enc Tryd.prog W 0 (fun _ => true) true fuel 29 (Value.slice a len cap).cells.toList = some (d, p)) :
    ∃ fs : List (ByteArray × ByteArray), fs.length = len ∧ FieldsAt W a fs ∧ len ≤ maxLen ∧ len ≤ cap ∧ (a = none → cap = 0) ∧ ∀ j (h : j < fs.length), (fs[j]).1.size ≤ maxLen ∧ (fs[j]).2.size ≤ maxLen := by
  obtain ⟨h1, h2, h3, h4⟩ := structs_open Tryd.underlying29 Tryd.underlying63 (by kernel_rfl) (by kernel_rfl) (by decide) hf
  have hx : ∀ i : Fin len, ∃ f : ByteArray × ByteArray, (∃ b off, a = some ⟨b, off, none⟩ ∧ W.cell? ⟨b, off + i.val * 2, none⟩ = some (.string f.1) ∧ W.cell? ⟨b, off + i.val * 2 + 1, none⟩ = some (.string f.2)) ∧ f.1.size ≤ maxLen ∧ f.2.size ≤ maxLen := by
    intro i
    obtain ⟨b, off, ha, n, hj⟩ := h4 i.val i.isLt
    obtain ⟨v0, y0, hc0, ht0⟩ := hj 0 _ rfl
    obtain ⟨v1, y1, hc1, ht1⟩ := hj 1 _ rfl
    obtain ⟨s0, e0, _, z0⟩ := DataW.trod_string Tryd.underlying9 ht0
    obtain ⟨s1, e1, _, z1⟩ := DataW.trod_string Tryd.underlying9 ht1
    injection e0 with e0 _
    injection e1 with e1 _
    subst e0; subst e1
    exact ⟨(s0, s1), ⟨b, off, ha, hc0, hc1⟩, z0, z1⟩
  refine ⟨List.ofFn fun i => Classical.choose (hx i), by simp, ?_, h1, h2, h3, ?_⟩
  · intro k hk
    have hk' : k < len := by simpa using hk
    obtain ⟨⟨b, off, ha, hb, hc⟩, _⟩ := Classical.choose_spec (hx ⟨k, hk'⟩)
    exact ⟨b, off, ha, by simpa using hb, by simpa using hc⟩
  · intro j hj
    have hj' : j < len := by simpa using hj
    have := (Classical.choose_spec (hx ⟨j, hj'⟩)).2
    simpa using this
theorem fields_of_trod {H : Type} {enc : TypeId × Value → H} {W : World} {v : Value} {y : DataW H × List MemPlace} {fuel : Nat}
    (hf : DataW.trod enc Tryd.prog W 0 (fun _ => true) true fuel 29 [v] = some y) :
    ∃ (fs : List (ByteArray × ByteArray)) (a : Option Addr) (c : Nat), v = .slice a fs.length c ∧ FieldsAt W a fs ∧ fs.length ≤ maxLen ∧ fs.length ≤ c ∧ (a = none → c = 0) ∧ ∀ j (h : j < fs.length), (fs[j]).1.size ≤ maxLen ∧ (fs[j]).2.size ≤ maxLen := by
  obtain ⟨d, p⟩ := y
  have hs : ∃ a n c, v = .slice a n c := by
    rcases Deep.open_slice Tryd.underlying29 hf with ⟨hcs, _⟩ | ⟨x, len', cap', m, n, D, Pl, hcs, _⟩
    · injection hcs with hcs; exact ⟨_, _, _, hcs⟩
    · injection hcs with hcs; exact ⟨_, _, _, hcs⟩
  obtain ⟨a, n, c, rfl⟩ := hs
  obtain ⟨fs, rfl, h1, h2, h3, h4, h5⟩ := fields_open (a := a) (len := n) (cap := c) (d := d) (p := p) (by simpa [Value.cells] using hf)
  exact ⟨fs, a, c, rfl, h1, h2, h3, h4, h5⟩
end Go.Proofs.YtekdkaiammebnaaDoor
