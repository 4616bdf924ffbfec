/-
  HeadBytes: what three lines that hold one byte are read as.
-/
import Derived.Test.YtckhjhgddnjfpaaDoorHeadKnown
namespace Go.Proofs.YtckhjhgddnjfpaaDoor
open Go.RowKit HeadMath

/-- The three lines. -/
def bl1 (c : UInt8) : ByteArray := ⟨#[120, c, 121, 58, 32, 118]⟩
def bl2 (c : UInt8) : ByteArray := ⟨#[120, 58, 32, 118, c, 119]⟩
def bl3 (c : UInt8) : ByteArray := ⟨#[120, 58, c, 118, c]⟩
def good1 (c : UInt8) : Bool := tokenF [c] || c == 58
def good2 (c : UInt8) : Bool := [c].all textB
def isBlank (c : UInt8) : Bool := c == 32 || c == 9
def f1 (c : UInt8) : ByteArray × ByteArray := if c == 58 then (⟨#[120]⟩, ⟨#[121, 58, 32, 118]⟩) else (⟨#[120, c, 121]⟩, ⟨#[118]⟩)
def f2 (c : UInt8) : ByteArray × ByteArray := (⟨#[120]⟩, ⟨#[118, c, 119]⟩)
def f3 (c : UInt8) : ByteArray × ByteArray := (⟨#[120]⟩, if isBlank c then ⟨#[118]⟩ else ⟨#[c, 118, c]⟩)
def sameB (x : Option (List (ByteArray × ByteArray))) (g : Bool) (f : ByteArray × ByteArray) : Bool := match x with
  | none => !g
  | some [h] => g && (h.1.data.toList == f.1.data.toList) && (h.2.data.toList == f.2.data.toList)
  | some _ => false
theorem sameB_eq {x : Option (List (ByteArray × ByteArray))} {g : Bool} {f : ByteArray × ByteArray} (h : sameB x g f = true) : x = if g then some [f] else none := by
  unfold sameB at h
  split at h
  · simp at h; rw [h]; rfl
  · rename_i y
    simp only [Bool.and_eq_true, beq_iff_eq] at h
    obtain ⟨⟨h1, h2⟩, h3⟩ := h
    have e : y = f := Prod.ext (data_inj h2) (data_inj h3)
    rw [h1, e]; rfl
  · cases h
theorem bytes_all : ∀ c : Fin 256, (sameB (parseF [bl1 (UInt8.ofNat c.val)]) (good1 (UInt8.ofNat c.val)) (f1 (UInt8.ofNat c.val)) && sameB (parseF [bl2 (UInt8.ofNat c.val)]) (good2 (UInt8.ofNat c.val)) (f2 (UInt8.ofNat c.val)) && sameB (parseF [bl3 (UInt8.ofNat c.val)]) (good2 (UInt8.ofNat c.val)) (f3 (UInt8.ofNat c.val))
    && (!(tokenF [UInt8.ofNat c.val]) || (good2 (UInt8.ofNat c.val) && !(UInt8.ofNat c.val == 58) && !isBlank (UInt8.ofNat c.val))) && (!isBlank (UInt8.ofNat c.val) || good2 (UInt8.ofNat c.val))) = true := by decide +kernel
theorem bytes_facts (c : UInt8) : parseF [bl1 c] = (if good1 c then some [f1 c] else none) ∧ parseF [bl2 c] = (if good2 c then some [f2 c] else none) ∧ parseF [bl3 c] = (if good2 c then some [f3 c] else none) ∧
    (tokenF [c] = true → good2 c = true ∧ (c == 58) = false ∧ isBlank c = false) ∧ (isBlank c = true → good2 c = true) := by
  have h := bytes_all ⟨c.toNat, c.toNat_lt⟩
  have e : UInt8.ofNat c.toNat = c := UInt8.ofNat_toNat
  simp only [e, Bool.and_eq_true, Bool.or_eq_true, Bool.not_eq_true'] at h
  obtain ⟨⟨⟨⟨h1, h2⟩, h3⟩, h4⟩, h5⟩ := h
  refine ⟨sameB_eq h1, sameB_eq h2, sameB_eq h3, fun ht => ?_, fun hb => ?_⟩
  · rcases h4 with h4 | h4
    · rw [ht] at h4; cases h4
    · exact ⟨h4.1.1, h4.1.2, h4.2⟩
  · rcases h5 with h5 | h5
    · rw [hb] at h5; cases h5
    · exact h5
end Go.Proofs.YtckhjhgddnjfpaaDoor
