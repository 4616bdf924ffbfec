/-
  A rule, of a text's words.
-/
import Derived.Test.YtjdiaighfhljgaaDoorFragOpenEntry
import Derived.Test.YtjdiaighfhljgaaDoorShaSum
import Derived.Test.YtjdiaighfhljgaaDoorShaOnce
import Derived.Test.YtjdiaighfhljgaaDoorWords
import Derived.Test.YtjdiaighfhljgaaDoorGlobMath
import Derived.Deep.MidRow
namespace Go.Proofs.YtjdiaighfhljgaaDoor
open Go.RowKit GlobMath

def allowB : List UInt8 := [97, 108, 108, 111, 119]
def denyB : List UInt8 := [100, 101, 110, 121]
def ruleA (a : Bool) (m h p : ByteArray) : Value := .agg #[.bool a, .string m, .string h, .string p]
def noRule : Value := .tuple #[ruleA false ⟨#[]⟩ ⟨#[]⟩ ⟨#[]⟩, .int .i64 122]
def firstF (a : ByteArray) : Bool := a.data.toList == allowB || a.data.toList == denyB
def ruleL : List ByteArray → Value
  | [a, m, h, p] => if firstF a && (validF m.data.toList && (validF h.data.toList && validF p.data.toList)) then .tuple #[ruleA (a.data.toList == allowB) m h p, .int .i64 0] else noRule
  | _ => noRule
theorem ruleL_count {L : List ByteArray} (h : L.length ≠ 4) : ruleL L = noRule := by
  unfold ruleL
  split
  · simp at h
  · rfl
theorem ruleL_four (a m h p : ByteArray) : ruleL [a, m, h, p] = if firstF a && (validF m.data.toList && (validF h.data.toList && validF p.data.toList)) then .tuple #[ruleA (a.data.toList == allowB) m h p, .int .i64 0] else noRule := rfl
theorem ruleL_word {a m h p : ByteArray} (hw : firstF a = false) : ruleL [a, m, h, p] = noRule := by rw [ruleL_four, hw]; rfl
theorem ruleL_bad {a m h p : ByteArray} (hv : (validF m.data.toList && (validF h.data.toList && validF p.data.toList)) = false) : ruleL [a, m, h, p] = noRule := by rw [ruleL_four, hv, Bool.and_false]; rfl
theorem ruleL_good {a m h p : ByteArray} (hw : firstF a = true) (h1 : validF m.data.toList = true) (h2 : validF h.data.toList = true) (h3 : validF p.data.toList = true) : ruleL [a, m, h, p] = .tuple #[ruleA (a.data.toList == allowB) m h p, .int .i64 0] := by rw [ruleL_four, hw, h1, h2, h3]; rfl
def RulePost (s : ByteArray) (w : World) (e : Ending) (w' : World) : Prop := e = .returned (ruleL (wordsL s)) ∧ Spares nowhere w w'
theorem infoRule : (Tryd.prog.info? 50).map (·.size) = some 4 := by kernel_rfl
theorem rule_stored {v : World} {g : Nat} {a b c d a' b' c' d' : Value} (h : v.heap[g]? = some (.cells #[a, b, c, d] 50 (0, 0))) :
    v.there g 0 (#[a', b', c', d'] : Array Value).size ∧ (v.setCells g 0 [a', b', c', d']).heap[g]? = some (.cells #[a', b', c', d'] 50 (0, 0)) := by
  refine ⟨there_of h 0 _ (by simp), ?_⟩
  have := heap_setCells (g := g) (t := 50) [a', b', c', d'] [] [a, b, c, d] [] v (by simpa using h) rfl
  simpa using this
theorem onesRule (a : Bool) (m h p : ByteArray) : (#[.bool a, .string m, .string h, .string p] : Array Value).all (·.oneCell') = true := by simp [Value.oneCell']
theorem size_cut {s x : ByteArray} {l : List (Nat × Nat)} (h : x ∈ cutsOf s l) : x.size ≤ s.size := by
  obtain ⟨y, _, rfl⟩ := List.mem_map.1 h
  rw [ByteArray.size_extract]
  omega
end Go.Proofs.YtjdiaighfhljgaaDoor
