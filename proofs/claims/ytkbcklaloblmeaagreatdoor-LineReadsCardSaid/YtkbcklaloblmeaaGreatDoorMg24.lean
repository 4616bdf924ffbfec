/-
  The laws' example; the tables that are laid; DateOrder.
-/
import Derived.Lib.LaidTab
import Derived.Test.YtkbcklaloblmeaaGreatDoorRows
import Derived.Test.YtkbcklaloblmeaaGreatDoorMg16
import Derived.Test.YtkbcklaloblmeaaGreatDoorMg23
namespace Go.Proofs.YtkbcklaloblmeaaGreatDoor
open Go.RowKit DateMath

theorem ex_readN : readF (⟨#[]⟩ : ByteArray).data.toList = (0, 80) := read_other _ (by decide) (by decide) (by decide)
theorem read_text (t : Int) : readF (arrD (plainT (momOf (clampN t)))).data.toList = (((clampN t : Nat) : Int), 0) := by
  have e : (arrD (plainT (momOf (clampN t)))).data.toList = plainT (momOf (clampN t)) := by unfold arrD; simp
  rw [e]
  exact read_yes ⟨clampN_le t, .inl rfl⟩
/-- Text and Parse of any world above w. -/
theorem textD_at {w : World} (h1 : TabP w) (h2 : TabS w) (t : Int) (x : World) (hx : Below w.heap.size w x) : Calls Tryz.prog 24 #[.int .i64 t] x fun e w' => e = .returned (.string (arrD (plainT (momOf (clampN t))))) ∧ Below w.heap.size w w' := by
  have hxs : Spares nowhere w x := Below.spares hx (fun k hk => .inr hk)
  exact (text_anyD t x (h1.spares hxs (fun h => h)) (h2.spares hxs (fun h => h))).mono fun e w' ⟨he, hb⟩ => ⟨he, hx.trans (hb.mono hx.size)⟩
theorem parseD_at {w : World} (h1 : TabP w) (h2 : TabS w) (s : ByteArray) (hs : s.size ≤ 140737488351232) (x : World) (hx : Below w.heap.size w x) : Calls Tryz.prog 28 #[.string s] x fun e w' => e = .returned (.tuple #[.int .i64 (readF s.data.toList).1, .int .i64 (readF s.data.toList).2]) ∧ Below w.heap.size w w' := by
  have hxs : Spares nowhere w x := Below.spares hx (fun k hk => .inr hk)
  have c := parse_anyD s x (h1.spares hxs (fun h => h)) (h2.spares hxs (fun h => h)) hs
  unfold ParseDPost at c
  exact c.mono fun e w' ⟨he, hb⟩ => ⟨he, hx.trans (hb.mono hx.size)⟩
theorem pow10_dataD : (Rows.laid_internal_strconv_uint64pow10 : DataW Unit) = Lib.tabData .u64 Lib.pow10Tab := by kernel_rfl
theorem space_dataD : (Rows.laid_strings_asciiSpace : DataW Unit) = Lib.tabData .u8 Lib.asciiSpaceTab := by kernel_rfl
theorem tabP_of_laid {W : World} {laid : List (String × DataW Unit)} (h : laidMet Tryz.prog laid W) (hm : ("internal/strconv.uint64pow10", (Rows.laid_internal_strconv_uint64pow10 : DataW Unit)) ∈ laid) : TabP W := by
  obtain ⟨ps, hl, _⟩ := h
  obtain ⟨g, t, cs, fuel, p, h1, h2, h3, h4⟩ := laid_mem hl hm
  rw [pow10_dataD] at h4
  have hg : Tryz.prog.globalNamed "internal/strconv.uint64pow10" = some 0 := by kernel_rfl
  obtain rfl := Option.some.inj (h1.symm.trans hg)
  obtain rfl := Option.some.inj (h2.symm.trans (show (Tryz.prog.globals[0]?).map (·.type) = some 148 by kernel_rfl))
  have hc := Lib.cells_of_tab Tryz.underlying148 Tryz.underlying135 (by kernel_rfl) (by kernel_rfl) h4
  unfold TabP Lib.TabIs
  rw [h3, ← hc]
theorem tabS_of_laid {W : World} {laid : List (String × DataW Unit)} (h : laidMet Tryz.prog laid W) (hm : ("strings.asciiSpace", (Rows.laid_strings_asciiSpace : DataW Unit)) ∈ laid) : TabS W := by
  obtain ⟨ps, hl, _⟩ := h
  obtain ⟨g, t, cs, fuel, p, h1, h2, h3, h4⟩ := laid_mem hl hm
  rw [space_dataD] at h4
  have hg : Tryz.prog.globalNamed "strings.asciiSpace" = some 2 := by kernel_rfl
  obtain rfl := Option.some.inj (h1.symm.trans hg)
  obtain rfl := Option.some.inj (h2.symm.trans (show (Tryz.prog.globals[2]?).map (·.type) = some 153 by kernel_rfl))
  have hc := Lib.cells_of_tab Tryz.underlying153 Tryz.underlying5 (by kernel_rfl) (by kernel_rfl) h4
  unfold TabS Lib.TabIs
  rw [h3, ← hc]
end Go.Proofs.YtkbcklaloblmeaaGreatDoor
