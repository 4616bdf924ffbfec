/-
  The laws' example; the tables that are laid; DateOrder.
  DateTexts.
  The reference's Parse of any text; DateReads.
-/
import Derived.Lib.LaidTab
import Derived.Test.YtaimhfnddolilaaGreatDoorRows
import Derived.Test.YtaimhfnddolilaaGreatDoorMg24
import Derived.Test.YtaimhfnddolilaaGreatDoorMg25
import Derived.Test.YtaimhfnddolilaaGreatDoorMg37
namespace Go.Proofs.YtaimhfnddolilaaGreatDoor
open Go.RowKit DateMath

theorem ex_readN : readF (⟨#[]⟩ : ByteArray).data.toList = (0, 80) := read_other _ (by decide) (by decide) (by decide)
theorem read_text (t : Int) : readF (arrD (plainT (momOf (clampN t)))).data.toList = (((clampN t : Nat) : Int), 0) := by
  have e : (arrD (plainT (momOf (clampN t)))).data.toList = plainT (momOf (clampN t)) := by unfold arrD; simp
  rw [e]
  exact read_yes ⟨clampN_le t, .inl rfl⟩
theorem parseD_at {w : World} (h1 : TabP w) (h2 : TabS w) (s : ByteArray) (hs : s.size ≤ 140737488351232) (x : World) (hx : Below w.heap.size w x) : Calls Tryz.prog 45 #[.string s] x fun e w' => e = .returned (.tuple #[.int .i64 (readF s.data.toList).1, .int .i64 (readF s.data.toList).2]) ∧ Below w.heap.size w w' := by
  have hxs : Spares nowhere w x := Below.spares hx (fun k hk => .inr hk)
  have c := parse_anyD s x (h1.spares hxs (fun h => h)) (h2.spares hxs (fun h => h)) hs
  unfold ParseDPost at c
  exact c.mono fun e w' ⟨he, hb⟩ => ⟨he, hx.trans (hb.mono hx.size)⟩
theorem pow10_dataD : (Rows.laid_internal_strconv_uint64pow10 : DataW Unit) = Lib.tabData .u64 Lib.pow10Tab := by kernel_rfl
theorem space_dataD : (Rows.laid_strings_asciiSpace : DataW Unit) = Lib.tabData .u8 Lib.asciiSpaceTab := by kernel_rfl
theorem tabP_of_laid {W : World} {laid : List (String × DataW Unit)} (h : laidMet Tryz.prog laid W) (hm : ("internal/strconv.uint64pow10", (Rows.laid_internal_strconv_uint64pow10 : DataW Unit)) ∈ laid) : TabP W := by
  obtain ⟨ps, hl, _⟩ := h
  obtain ⟨g, t, cs, fuel, p, h1, h2, h3, h4⟩ := laid_mem hl hm
  rw [pow10_dataD] at h4
  have hg : Tryz.prog.globalNamed "internal/strconv.uint64pow10" = some 3 := by kernel_rfl
  obtain rfl := Option.some.inj (h1.symm.trans hg)
  obtain rfl := Option.some.inj (h2.symm.trans (show (Tryz.prog.globals[3]?).map (·.type) = some 184 by kernel_rfl))
  have hc := Lib.cells_of_tab Tryz.underlying184 Tryz.underlying162 (by kernel_rfl) (by kernel_rfl) h4
  unfold TabP Lib.TabIs
  rw [h3, ← hc]
theorem tabS_of_laid {W : World} {laid : List (String × DataW Unit)} (h : laidMet Tryz.prog laid W) (hm : ("strings.asciiSpace", (Rows.laid_strings_asciiSpace : DataW Unit)) ∈ laid) : TabS W := by
  obtain ⟨ps, hl, _⟩ := h
  obtain ⟨g, t, cs, fuel, p, h1, h2, h3, h4⟩ := laid_mem hl hm
  rw [space_dataD] at h4
  have hg : Tryz.prog.globalNamed "strings.asciiSpace" = some 1 := by kernel_rfl
  obtain rfl := Option.some.inj (h1.symm.trans hg)
  obtain rfl := Option.some.inj (h2.symm.trans (show (Tryz.prog.globals[1]?).map (·.type) = some 141 by kernel_rfl))
  have hc := Lib.cells_of_tab Tryz.underlying141 Tryz.underlying5 (by kernel_rfl) (by kernel_rfl) h4
  unfold TabS Lib.TabIs
  rw [h3, ← hc]
end Go.Proofs.YtaimhfnddolilaaGreatDoor
namespace Go.Proofs.YtaimhfnddolilaaGreatDoor
open Go.RowKit DateMath

theorem refTextD_at {w : World} (t : Int) (x : World) (hx : Below w.heap.size w x) : Calls Tryz.prog 20 #[.int .i64 t] x fun e w' => e = .returned (.string (arrD (plainT (momOf (clampN t))))) ∧ Below w.heap.size w w' :=
  (refText_any t x).mono fun _ _ ⟨he, hb⟩ => ⟨he, hx.trans (hb.mono hx.size)⟩
end Go.Proofs.YtaimhfnddolilaaGreatDoor
namespace Go.Proofs.YtaimhfnddolilaaGreatDoor
open Go.RowKit DateMath

theorem not_long {l : Bs} (h : l.length < 30) : ∀ w : Nat, w ≤ 6 → ¬ ∃ r : Bs, l = dayL.getD w [] ++ 44 :: 32 :: r ∧ r.length = 22 := by
  rintro w hw ⟨r, h1, h2⟩
  have := (split_to h1 h2).1
  have := day_len w hw
  omega
theorem refParse_anyD (s : ByteArray) (w : World) (hs : s.size ≤ 140737488351232) : Calls Tryz.prog 43 #[.string s] w (PairPost (readF s.data.toList) w) := by
  have hll : s.data.toList.length = s.size := by simp
  by_cases a : s.size = 29
  · by_cases b : sepP s.data.toList
    · exact refParse_plain s w b
    · exact refParse_bad29 s w a (ref_none _ b (fun h => by have := h.1; omega) (not_long (by omega))) b
  by_cases c : s.size = 24
  · by_cases b : sepO s.data.toList
    · exact refParse_old s w b
    · exact refParse_bad24 s w c (ref_none _ (fun h => by have := h.1; omega) b (not_long (by omega))) b
  exact refParse_rest s w hs a c
theorem refParseD_at {w : World} (s : ByteArray) (hs : s.size ≤ 140737488351232) (x : World) (hx : Below w.heap.size w x) : Calls Tryz.prog 43 #[.string s] x fun e w' => e = .returned (.tuple #[.int .i64 (readF s.data.toList).1, .int .i64 (readF s.data.toList).2]) ∧ Below w.heap.size w w' := by
  have c := refParse_anyD s x hs
  unfold PairPost at c
  exact c.mono fun e w' ⟨he, hb⟩ => ⟨he, hx.trans (hb.mono hx.size)⟩
end Go.Proofs.YtaimhfnddolilaaGreatDoor
