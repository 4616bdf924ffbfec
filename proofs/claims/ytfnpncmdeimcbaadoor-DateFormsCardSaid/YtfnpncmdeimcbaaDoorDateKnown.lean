/-
  The laws' example; the tables that are laid; DateOrder.
-/
import Derived.Test.YtfnpncmdeimcbaaDoorDateText
import Derived.Test.YtfnpncmdeimcbaaDoorLaidInts
import Derived.Lib.LaidTab
import Derived.Test.YtfnpncmdeimcbaaDoorRows
namespace Go.Proofs.YtfnpncmdeimcbaaDoor
open Go.RowKit DateMath

def YesD (w : World) (e : Ending) (w' : World) : Prop := e = .returned (.bool true) ∧ Below w.heap.size w w'
def exP : ByteArray := ⟨#[83, 117, 110, 44, 32, 48, 54, 32, 78, 111, 118, 32, 49, 57, 57, 52, 32, 48, 56, 58, 52, 57, 58, 51, 55, 32, 71, 77, 84]⟩
def exL : ByteArray := ⟨#[83, 117, 110, 100, 97, 121, 44, 32, 48, 54, 45, 78, 111, 118, 45, 57, 52, 32, 48, 56, 58, 52, 57, 58, 51, 55, 32, 71, 77, 84]⟩
def exO : ByteArray := ⟨#[83, 117, 110, 32, 78, 111, 118, 32, 32, 54, 32, 48, 56, 58, 52, 57, 58, 51, 55, 32, 49, 57, 57, 52]⟩
theorem ex_plain : exP.data.toList = plainT (momOf 784111777) := by decide +kernel
theorem ex_long : exL.data.toList = longT (momOf 784111777) := by decide +kernel
theorem ex_old : exO.data.toList = oldT (momOf 784111777) := by decide +kernel
theorem ex_year : (momOf 784111777).year ≤ 2069 := by decide +kernel
theorem ex_readP : readF exP.data.toList = (784111777, 0) := read_yes (t := 784111777) ⟨by decide, .inl ex_plain⟩
theorem ex_readL : readF exL.data.toList = (784111777, 0) := read_yes (t := 784111777) ⟨by decide, .inr (.inr ⟨ex_long, ex_year⟩)⟩
theorem ex_readO : readF exO.data.toList = (784111777, 0) := read_yes (t := 784111777) ⟨by decide, .inr (.inl ex_old)⟩
theorem ex_readN : readF (⟨#[]⟩ : ByteArray).data.toList = (0, 80) := read_other _ (by decide) (by decide) (by decide)
theorem ex_text : arrD (plainT (momOf (clampN 784111777))) = exP := by
  have : clampN 784111777 = 784111777 := by decide
  rw [this, ← ex_plain]
  rfl
set_option maxRecDepth 100000 in
set_option maxHeartbeats 8000000 in
theorem knownD_any (w : World) (h1 : TabP w) (h2 : TabS w) : Calls Tryd.prog 8 #[] w (YesD w) := by
  have step : ∀ (s : ByteArray) (a b : Int), s.size ≤ 100 → readF s.data.toList = (a, b) → ∀ x : World, Below w.heap.size w x → Calls Tryd.prog 10 #[.string s] x fun e w' => e = .returned (.tuple #[.int .i64 a, .int .i64 b]) ∧ Below w.heap.size w w' := by
    intro s a b hs hr x hx
    have hxs : Spares nowhere w x := Below.spares hx (fun k hk => .inr hk)
    have c := parse_anyD s x (h1.spares hxs (fun h => h)) (h2.spares hxs (fun h => h)) (by omega)
    unfold ParseDPost at c
    rw [hr] at c
    exact c.mono fun e w' ⟨he, hb⟩ => ⟨he, hx.trans (hb.mono hx.size)⟩
  have cP := step exP _ _ (by decide) ex_readP
  have cL := step exL _ _ (by decide) ex_readL
  have cO := step exO _ _ (by decide) ex_readO
  have cN := step ⟨#[]⟩ _ _ (by decide) ex_readN
  have cT : ∀ x : World, Below w.heap.size w x → Calls Tryd.prog 9 #[.int .i64 784111777] x fun e w' => e = .returned (.string exP) ∧ Below w.heap.size w w' := by
    intro x hx
    have hxs : Spares nowhere w x := Below.spares hx (fun k hk => .inr hk)
    have c := text_anyD 784111777 x (h1.spares hxs (fun h => h)) (h2.spares hxs (fun h => h))
    rw [ex_text] at c
    exact c.mono fun e w' ⟨he, hb⟩ => ⟨he, hx.trans (hb.mono hx.size)⟩
  unfold exP at cP cT
  unfold exL at cL
  unfold exO at cO
  have CP := Lib.hid cP
  have CL := Lib.hid cL
  have CO := Lib.hid cO
  have CN := Lib.hid cN
  have CT := Lib.hid cT
  clear step cP cL cO cN cT h1 h2
  unfold YesD
  go_enter Tryd.func8, Tryd.ntmps8
  go_wp2_with fail
  refine (CP.out w (Below.refl _ _)).mono ?_
  rintro e w1 ⟨rfl, hb1⟩
  have HB1 := Lib.hid hb1
  clear hb1
  go_wp2_with fail
  refine (CL.out w1 HB1.out).mono ?_
  rintro e w2 ⟨rfl, hb2⟩
  have HB2 := Lib.hid hb2
  clear hb2
  go_wp2_with fail
  refine (CO.out w2 HB2.out).mono ?_
  rintro e w3 ⟨rfl, hb3⟩
  have HB3 := Lib.hid hb3
  clear hb3
  go_wp2_with fail
  refine (CN.out w3 HB3.out).mono ?_
  rintro e w4 ⟨rfl, hb4⟩
  have HB4 := Lib.hid hb4
  clear hb4
  go_wp2_with fail
  refine (CT.out w4 HB4.out).mono ?_
  rintro e w5 ⟨rfl, hb5⟩
  have HB5 := Lib.hid hb5
  clear hb5
  go_wp2
  go_ret
  exact ⟨rfl, HB5.out⟩
theorem read_text (t : Int) : readF (arrD (plainT (momOf (clampN t)))).data.toList = (((clampN t : Nat) : Int), 0) := by
  have e : (arrD (plainT (momOf (clampN t)))).data.toList = plainT (momOf (clampN t)) := by unfold arrD; simp
  rw [e]
  exact read_yes ⟨clampN_le t, .inl rfl⟩
/-- Text and Parse of any world above w. -/
theorem textD_at {w : World} (h1 : TabP w) (h2 : TabS w) (t : Int) (x : World) (hx : Below w.heap.size w x) : Calls Tryd.prog 9 #[.int .i64 t] x fun e w' => e = .returned (.string (arrD (plainT (momOf (clampN t))))) ∧ Below w.heap.size w w' := by
  have hxs : Spares nowhere w x := Below.spares hx (fun k hk => .inr hk)
  exact (text_anyD t x (h1.spares hxs (fun h => h)) (h2.spares hxs (fun h => h))).mono fun e w' ⟨he, hb⟩ => ⟨he, hx.trans (hb.mono hx.size)⟩
theorem parseD_at {w : World} (h1 : TabP w) (h2 : TabS w) (s : ByteArray) (hs : s.size ≤ 140737488351232) (x : World) (hx : Below w.heap.size w x) : Calls Tryd.prog 10 #[.string s] x fun e w' => e = .returned (.tuple #[.int .i64 (readF s.data.toList).1, .int .i64 (readF s.data.toList).2]) ∧ Below w.heap.size w w' := by
  have hxs : Spares nowhere w x := Below.spares hx (fun k hk => .inr hk)
  have c := parse_anyD s x (h1.spares hxs (fun h => h)) (h2.spares hxs (fun h => h)) hs
  unfold ParseDPost at c
  exact c.mono fun e w' ⟨he, hb⟩ => ⟨he, hx.trans (hb.mono hx.size)⟩
theorem pow10_dataD : (Rows.laid_internal_strconv_uint64pow10 : DataW Unit) = Lib.tabData .u64 Lib.pow10Tab := by kernel_rfl
theorem space_dataD : (Rows.laid_strings_asciiSpace : DataW Unit) = Lib.tabData .u8 Lib.asciiSpaceTab := by kernel_rfl
theorem tabP_of_laid {W : World} {laid : List (String × DataW Unit)} (h : laidMet Tryd.prog laid W) (hm : ("internal/strconv.uint64pow10", (Rows.laid_internal_strconv_uint64pow10 : DataW Unit)) ∈ laid) : TabP W := by
  obtain ⟨ps, hl, _⟩ := h
  obtain ⟨g, t, cs, fuel, p, h1, h2, h3, h4⟩ := laid_mem hl hm
  rw [pow10_dataD] at h4
  have hg : Tryd.prog.globalNamed "internal/strconv.uint64pow10" = some 3 := by kernel_rfl
  obtain rfl := Option.some.inj (h1.symm.trans hg)
  obtain rfl := Option.some.inj (h2.symm.trans (show (Tryd.prog.globals[3]?).map (·.type) = some 123 by kernel_rfl))
  have hc := Lib.cells_of_tab Tryd.underlying123 Tryd.underlying101 (by kernel_rfl) (by kernel_rfl) h4
  unfold TabP Lib.TabIs
  rw [h3, ← hc]
theorem tabS_of_laid {W : World} {laid : List (String × DataW Unit)} (h : laidMet Tryd.prog laid W) (hm : ("strings.asciiSpace", (Rows.laid_strings_asciiSpace : DataW Unit)) ∈ laid) : TabS W := by
  obtain ⟨ps, hl, _⟩ := h
  obtain ⟨g, t, cs, fuel, p, h1, h2, h3, h4⟩ := laid_mem hl hm
  rw [space_dataD] at h4
  have hg : Tryd.prog.globalNamed "strings.asciiSpace" = some 0 := by kernel_rfl
  obtain rfl := Option.some.inj (h1.symm.trans hg)
  obtain rfl := Option.some.inj (h2.symm.trans (show (Tryd.prog.globals[0]?).map (·.type) = some 87 by kernel_rfl))
  have hc := Lib.cells_of_tab Tryd.underlying87 Tryd.underlying5 (by kernel_rfl) (by kernel_rfl) h4
  unfold TabS Lib.TabIs
  rw [h3, ← hc]
set_option maxRecDepth 100000 in
set_option maxHeartbeats 8000000 in
theorem orderD_any (a b : Int) (w : World) (h1 : TabP w) (h2 : TabS w) : Calls Tryd.prog 7 #[.int .i64 a, .int .i64 b] w (YesD w) := by
  have CK := Lib.hid (knownD_any w h1 h2)
  have za : (arrD (plainT (momOf (clampN a)))).size ≤ 140737488351232 := by rw [arrD_size, plain_len (mom_ok _ (clampN_le a))]; decide
  have zb : (arrD (plainT (momOf (clampN b)))).size ≤ 140737488351232 := by rw [arrD_size, plain_len (mom_ok _ (clampN_le b))]; decide
  have cta := textD_at h1 h2 a
  have ctb := textD_at h1 h2 b
  have cpa := parseD_at h1 h2 _ za
  have cpb := parseD_at h1 h2 _ zb
  rw [read_text] at cpa cpb
  have na := clampN_int a
  have nb := clampN_int b
  obtain ⟨X, hX⟩ : ∃ X, arrD (plainT (momOf (clampN a))) = X := ⟨_, rfl⟩
  obtain ⟨Y, hY⟩ : ∃ Y, arrD (plainT (momOf (clampN b))) = Y := ⟨_, rfl⟩
  obtain ⟨p, hp⟩ : ∃ p, clampN a = p := ⟨_, rfl⟩
  obtain ⟨q, hq⟩ : ∃ q, clampN b = q := ⟨_, rfl⟩
  rw [hX] at cta cpa
  rw [hY] at ctb cpb
  rw [hp] at cpa na
  rw [hq] at cpb nb
  have CTA := Lib.hid cta
  have CTB := Lib.hid ctb
  have CPA := Lib.hid cpa
  have CPB := Lib.hid cpb
  have NA : Hid (min (max a 0) 253402300799 = (p : Int)) := Lib.hid na.symm
  have NB : Hid (min (max b 0) 253402300799 = (q : Int)) := Lib.hid nb.symm
  have hpl : p ≤ 253402300799 := by omega
  have hql : q ≤ 253402300799 := by omega
  clear cta ctb cpa cpb na nb hX hY hp hq za zb h1 h2
  unfold YesD
  go_enter Tryd.func7, Tryd.ntmps7
  go_wp2_with fail
  refine CK.out.mono ?_
  rintro e w1 ⟨rfl, hb1⟩
  have HB1 := Lib.hid hb1
  clear hb1
  go_wp2_with fail
  refine (CTA.out w1 HB1.out).mono ?_
  rintro e w2 ⟨rfl, hb2⟩
  have HB2 := Lib.hid hb2
  clear hb2
  go_wp2_with fail
  refine (CPA.out w2 HB2.out).mono ?_
  rintro e w3 ⟨rfl, hb3⟩
  have HB3 := Lib.hid hb3
  clear hb3
  go_wp2_with fail
  refine (CTB.out w3 HB3.out).mono ?_
  rintro e w4 ⟨rfl, hb4⟩
  have HB4 := Lib.hid hb4
  clear hb4
  go_wp2_with fail
  refine (CPB.out w4 HB4.out).mono ?_
  rintro e w5 ⟨rfl, hb5⟩
  have HB5 := Lib.hid hb5
  clear hb5
  go_upto_region 6 with (fail)
  have na := NA.out
  have nb := NB.out
  first | rw [na, nb] | trace_state
  clear na nb
  obtain ⟨t1, ht1⟩ : ∃ t, decide ((p : Int) < (q : Int)) = t := ⟨_, rfl⟩
  obtain ⟨t2, ht2⟩ : ∃ t, ((p : Int) == (q : Int)) = t := ⟨_, rfl⟩
  have ht1n : decide (p < q) = t1 := by rw [← ht1]; exact decide_eq_decide.2 (by omega)
  have hself : ∀ t : Bool, (t == t) = true := fun t => beq_self_eq_true t
  go_wp2
  go_ret
  refine ⟨?_, HB5.out⟩
  first | rfl | (simp) | trace_state
end Go.Proofs.YtfnpncmdeimcbaaDoor
