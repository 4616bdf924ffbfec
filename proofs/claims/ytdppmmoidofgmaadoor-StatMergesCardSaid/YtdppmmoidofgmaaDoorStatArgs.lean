/-
  Numbers that came in, opened; the table that is laid.
-/
import Derived.Test.YtdppmmoidofgmaaDoorStatLawQ
import Derived.Test.YtdppmmoidofgmaaDoorLaidInts
import Derived.Lib.LaidTab
import Derived.Lib.SmallJoins
import Derived.Test.YtdppmmoidofgmaaDoorRows
namespace Go.Proofs.YtdppmmoidofgmaaDoor
open Go.ChangeShapes Go.WideShapes Go.ChangeAt Go.RowKit Go.Deep

theorem pow10_data : (Rows.laid_internal_strconv_uint64pow10 : DataW Unit) = Lib.tabData .u64 Lib.pow10Tab := by kernel_rfl
theorem tab_of_laid {W : World} {laid : List (String × DataW Unit)} (h : laidMet Tryd.prog laid W) (hm : ("internal/strconv.uint64pow10", (Rows.laid_internal_strconv_uint64pow10 : DataW Unit)) ∈ laid) : TabW W := by
  obtain ⟨ps, hl, _⟩ := h
  obtain ⟨g, t, cs, fuel, p, h1, h2, h3, h4⟩ := laid_mem hl hm
  rw [pow10_data] at h4
  have hg : Tryd.prog.globalNamed "internal/strconv.uint64pow10" = some 0 := by kernel_rfl
  obtain rfl := Option.some.inj (h1.symm.trans hg)
  obtain rfl := Option.some.inj (h2.symm.trans (show (Tryd.prog.globals[0]?).map (·.type) = some 89 by kernel_rfl))
  have hc := Lib.cells_of_tab Tryd.underlying89 Tryd.underlying75 (by kernel_rfl) (by kernel_rfl) h4
  unfold TabW Lib.TabIs
  rw [h3, ← hc]
theorem u32_bd {x : Int} (h : (Lit.int .u32 x).wf = true) : 0 ≤ x ∧ x ≤ 4294967295 := by
  simp [Lit.wf, IntKind.bits, IntKind.signed, IntKind.min, IntKind.max] at h
  omega
theorem u8_bd {x : Int} (h : (Lit.int .u8 x).wf = true) : 0 ≤ x ∧ x ≤ 255 := by
  simp [Lit.wf, IntKind.bits, IntKind.signed, IntKind.min, IntKind.max] at h
  omega
/-- A slice of numbers of 32 bits that came in. -/
theorem u32s_open {H : Type} {W : World} {enc : TypeId × Value → H} {v : Value} {d : DataW H} {p : List MemPlace} {fuel : Nat} {a : Option Addr} {len cap : Nat} (hv : v = .slice a len cap)
    (hf : DataW.trod enc Tryd.prog W 0 (fun _ => true) true fuel 40 v.cells.toList = some (d, p)) :
    ∃ zs : List Int, zs.length = len ∧ U32At W a zs ∧ len ≤ maxLen := by
  subst hv
  rcases open_ints Tryd.underlying40 Tryd.underlying41 (by kernel_rfl) hf with ⟨hcs, _⟩ | ⟨x, l, c, zs, hcs, _, hl, hm, hz, _, hcell, hwz⟩
  · simp [Value.cells] at hcs
    obtain ⟨rfl, rfl, rfl⟩ := hcs
    exact ⟨[], rfl, fun k h => absurd h (Nat.not_lt_zero _), Nat.zero_le _⟩
  · simp [Value.cells] at hcs
    obtain ⟨rfl, rfl, rfl⟩ := hcs
    have hzl : zs.length = cap := by simpa using hz
    refine ⟨zs.take len, by simp; omega, ?_, by omega⟩
    intro k hk
    have hk' : k < zs.length := by simp at hk; omega
    obtain ⟨b, off, rfl, hc⟩ := ints_at hcell (by omega)
    have h2 := hc k hk'
    have e : zs.getD k 0 = zs[k] := by rw [List.getD_eq_getElem?_getD, List.getElem?_eq_getElem hk', Option.getD_some]
    rw [e] at h2
    have hw := hwz zs[k] (List.getElem_mem hk')
    rw [List.getElem_take]
    exact ⟨b, off, rfl, h2, u32_bd (by simpa [Lit.wf, IntKind.wrap, IntKind.bits, IntKind.signed] using hw)⟩
end Go.Proofs.YtdppmmoidofgmaaDoor
