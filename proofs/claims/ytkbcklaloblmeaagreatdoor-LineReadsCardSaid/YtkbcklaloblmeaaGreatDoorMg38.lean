/-
  A line that came in, opened.
-/
import Derived.OpenShut
import Derived.Lib.SmallJoins
import Derived.Deep.Fields
import Derived.Test.YtkbcklaloblmeaaGreatDoorRows
import Derived.Test.YtkbcklaloblmeaaGreatDoorMg31
import Derived.Test.YtkbcklaloblmeaaGreatDoorMg34
namespace Go.Proofs.YtkbcklaloblmeaaGreatDoor
open Go.RowKit Go.Deep
open Go.WideShapes Go.ChangeAt
open ChunkS LineMath

set_option maxRecDepth 100000
theorem aggL_open {H : Type} {enc : TypeId × Value → H} {P : Program} {W : World} {t : TypeId} {fs : Array Field} {v : Value} {d : DataW H} {p : List MemPlace} {r : Reach} {b0 : Nat} (hs : P.underlying t = some (.struct fs)) (hone : oneCellFields P fs = true) (hC : P.cellsOf t = fs.size)
    (hv : Value.okWide P W r b0 t v) (h : DataW.Trod enc P W 0 (fun _ => true) true t v d p) :
    ∃ cs : Array Value, v = .agg cs ∧ cs.size = fs.size ∧ ∃ n, ∀ (j : Nat) (f : Field), fs[j]? = some f → ∃ u y, cs[j]? = some u ∧ DataW.trod enc P W 0 (fun _ => true) true n f.type [u] = some y := by
  obtain ⟨cs, rfl, hsz⟩ := okWide_struct hs hv
  obtain ⟨fuel, hf⟩ := h
  obtain ⟨ys, n', _, _, hl, hyl, hy⟩ := DataW.trod_struct hs hf
  refine ⟨cs, rfl, hsz.trans hC, n', fun j f hj => ?_⟩
  have hjl : j < fs.size := (Array.getElem?_eq_some_iff.1 hj).1
  have hcj : j < cs.size := by omega
  obtain ⟨h1, h2⟩ := hone_of hone j f hj
  have h3 := hy j f hj
  have e : (Value.agg cs).cells.toList = cs.toList := by simp [Value.cells]
  rw [e, h1, h2, List.drop_eq_getElem_cons (by simpa using hcj)] at h3
  refine ⟨cs[j], ys[j]'(by omega), Array.getElem?_eq_getElem _, ?_⟩
  rw [List.getElem?_eq_getElem (by omega)] at h3
  simpa using h3
theorem array7L {cs : Array Value} (h : cs.size = 7) : ∃ v0 v1 v2 v3 v4 v5 v6, cs = #[v0, v1, v2, v3, v4, v5, v6] := by
  obtain ⟨l⟩ := cs
  match l, h with
  | [v0, v1, v2, v3, v4, v5, v6], _ => exact ⟨_, _, _, _, _, _, _, rfl⟩
theorem i64_topL {x : Int} (h : (Lit.int .i64 x).wf = true) : x ≤ 9223372036854775807 := by
  simp [Lit.wf] at h
  have e1 : IntKind.i64.max = 9223372036854775807 := by decide
  omega
section
variable {H : Type} {W : World} {enc : TypeId × Value → H}
theorem line_open {v : Value} {d : DataW H} {p : List MemPlace} {r : Reach} {b0 : Nat} (hv : Value.okWide Tryz.prog W r b0 23 v) (h : DataW.Trod enc Tryz.prog W 0 (fun _ => true) true 23 v d p) :
    ∃ l : LineV, v = .agg (cellsV l).toArray ∧ WideL l := by
  obtain ⟨cs, rfl, hsz, n, hg⟩ := aggL_open Tryz.underlying23 (by kernel_rfl) (by kernel_rfl) hv h
  obtain ⟨v0, v1, v2, v3, v4, v5, v6, rfl⟩ := array7L (hsz.trans rfl)
  obtain ⟨u, y, hu, ht⟩ := hg 0 _ rfl
  obtain rfl : v0 = u := by simpa using hu
  obtain ⟨z0, e0, _, w0⟩ := DataW.trod_int Tryz.underlying2 ht
  injection e0 with e0
  subst e0
  clear hu ht
  obtain ⟨u, y, hu, ht⟩ := hg 1 _ rfl
  obtain rfl : v1 = u := by simpa using hu
  obtain ⟨z1, e1, _, w1⟩ := DataW.trod_int Tryz.underlying3 ht
  injection e1 with e1
  subst e1
  clear hu ht
  obtain ⟨u, y, hu, ht⟩ := hg 2 _ rfl
  obtain rfl : v2 = u := by simpa using hu
  obtain ⟨z2, e2, _⟩ := DataW.trod_string Tryz.underlying9 ht
  injection e2 with e2
  subst e2
  clear hu ht
  obtain ⟨u, y, hu, ht⟩ := hg 3 _ rfl
  obtain rfl : v3 = u := by simpa using hu
  obtain ⟨z3, e3, _⟩ := DataW.trod_string Tryz.underlying9 ht
  injection e3 with e3
  subst e3
  clear hu ht
  obtain ⟨u, y, hu, ht⟩ := hg 4 _ rfl
  obtain rfl : v4 = u := by simpa using hu
  obtain ⟨z4, e4, _⟩ := DataW.trod_string Tryz.underlying9 ht
  injection e4 with e4
  subst e4
  clear hu ht
  obtain ⟨u, y, hu, ht⟩ := hg 5 _ rfl
  obtain rfl : v5 = u := by simpa using hu
  obtain ⟨z5, e5, _, w5⟩ := DataW.trod_int Tryz.underlying3 ht
  injection e5 with e5
  subst e5
  clear hu ht
  obtain ⟨u, y, hu, ht⟩ := hg 6 _ rfl
  obtain rfl : v6 = u := by simpa using hu
  obtain ⟨z6, e6, _, w6⟩ := DataW.trod_int Tryz.underlying3 ht
  injection e6 with e6
  subst e6
  clear hu ht
  refine ⟨⟨z0, z1, z2.data.toList, z3.data.toList, z4.data.toList, z5, z6⟩, ?_, i64_topL w1, i64_topL w5, i64_topL w6⟩
  unfold cellsV
  simp
end
end Go.Proofs.YtkbcklaloblmeaaGreatDoor
