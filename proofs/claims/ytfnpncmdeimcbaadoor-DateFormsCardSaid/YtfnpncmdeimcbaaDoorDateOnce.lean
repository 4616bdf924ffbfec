/-
  The names of days and months, cut from one text each.
-/
import Derived.Test.YtfnpncmdeimcbaaDoorDateClock
import Derived.Test.YtfnpncmdeimcbaaDoorOnceParts
import Derived.Deep.RegionHeld3
import Derived.Lib.Fields
import Derived.Lib.LaidTab
namespace Go.Proofs.YtfnpncmdeimcbaaDoor
open Go.RowKit DateMath

theorem heap_setD {w : World} {g : Nat} {t : TypeId} {cs : Array Value} (h : w.heap[g]? = some (.cells cs t (0, 0))) (i : Nat) (u : Value) : (w.setCell ⟨g, i, none⟩ u).heap[g]? = some (.cells (cs.setIfInBounds i u) t (0, 0)) := by
  simp [World.setCell, Array.getElem?_modify, h]
theorem spares_setD {g : Nat} {w w' : World} (h : Spares (fun b => b = g) w w') (i : Nat) (u : Value) : Spares (fun b => b = g) w (w'.setCell ⟨g, i, none⟩ u) := h.setCell (p := ⟨g, i, none⟩) (.inl rfl) u
/-- The tables that the library reads lie in w, below B. -/
def TabP (w : World) : Prop := Lib.TabIs Tryd.prog w "internal/strconv.uint64pow10" .u64 Lib.pow10Tab
def TabS (w : World) : Prop := Lib.TabIs Tryd.prog w "strings.asciiSpace" .u8 Lib.asciiSpaceTab
theorem TabP.lt {w : World} (h : TabP w) : 3 < w.heap.size := by
  unfold TabP Lib.TabIs World.var? at h
  rw [show Tryd.prog.globalNamed "internal/strconv.uint64pow10" = some 3 by kernel_rfl] at h
  simp only [Option.bind_some] at h
  rcases Nat.lt_or_ge 3 w.heap.size with h' | h'
  · exact h'
  · rw [Array.getElem?_eq_none h'] at h; cases h
theorem TabS.lt {w : World} (h : TabS w) : 0 < w.heap.size := by
  unfold TabS Lib.TabIs World.var? at h
  rw [show Tryd.prog.globalNamed "strings.asciiSpace" = some 0 by kernel_rfl] at h
  simp only [Option.bind_some] at h
  rcases Nat.lt_or_ge 0 w.heap.size with h' | h'
  · exact h'
  · rw [Array.getElem?_eq_none h'] at h; cases h
theorem TabP.spares {F : Nat → Prop} {w w' : World} (h : TabP w) (hs : Spares F w w') (hF : ¬ F 3) : TabP w' := by
  have hlt := h.lt
  unfold TabP Lib.TabIs World.var? at h ⊢
  rw [show Tryd.prog.globalNamed "internal/strconv.uint64pow10" = some 3 by kernel_rfl] at h ⊢
  simp only [Option.bind_some] at h ⊢
  rw [hs.block 3 hlt hF]
  exact h
theorem TabS.spares {F : Nat → Prop} {w w' : World} (h : TabS w) (hs : Spares F w w') (hF : ¬ F 0) : TabS w' := by
  have hlt := h.lt
  unfold TabS Lib.TabIs World.var? at h ⊢
  rw [show Tryd.prog.globalNamed "strings.asciiSpace" = some 0 by kernel_rfl] at h ⊢
  simp only [Option.bind_some] at h ⊢
  rw [hs.block 0 hlt hF]
  exact h
/-- Both, at places below p. -/
structure Tabs (w : World) (p : Nat) : Prop where
  pow : TabP w
  space : TabS w
  one : 3 < p
  two : 0 < p
theorem Tabs.spares {w w' : World} {p : Nat} (h : Tabs w p) (hs : Spares (fun b => b = p) w w') : Tabs w' p :=
  ⟨h.pow.spares hs (by have := h.one; omega), h.space.spares hs (by have := h.two; omega), h.one, h.two⟩
theorem Tabs.below {w w' : World} {p : Nat} (h : Tabs w p) (hb : Below w.heap.size w w') : Tabs w' p :=
  h.spares (Below.spares hb (fun _ hk => .inr hk))
def dayA : Array Value := (dayL.map fun l => Value.string ⟨l.toArray⟩).toArray
def monA : Array Value := (monL.map fun l => Value.string ⟨l.toArray⟩).toArray
def dayS : ByteArray := ⟨#[83, 117, 110, 100, 97, 121, 32, 77, 111, 110, 100, 97, 121, 32, 84, 117, 101, 115, 100, 97, 121, 32, 87, 101, 100, 110, 101, 115, 100, 97, 121, 32, 84, 104, 117, 114, 115, 100, 97, 121, 32, 70, 114, 105, 100, 97, 121, 32, 83, 97, 116, 117, 114, 100, 97, 121]⟩
def monS : ByteArray := ⟨#[74, 97, 110, 32, 70, 101, 98, 32, 77, 97, 114, 32, 65, 112, 114, 32, 77, 97, 121, 32, 74, 117, 110, 32, 74, 117, 108, 32, 65, 117, 103, 32, 83, 101, 112, 32, 79, 99, 116, 32, 78, 111, 118, 32, 68, 101, 99]⟩
set_option maxRecDepth 100000 in
theorem fields_day : Lib.fields dayS.data.toList = dayL := by decide +kernel
set_option maxRecDepth 100000 in
theorem fields_mon : Lib.fields monS.data.toList = monL := by decide +kernel
theorem ascii_of {s : ByteArray} (h : s.data.toList.all (fun b => decide (b.toNat < 128)) = true) : ∀ (j : Nat) b, s.data.toList[j]? = some b → b.toNat < 128 := fun j b hb => of_decide_eq_true (List.all_eq_true.1 h b (List.mem_of_getElem? hb))
set_option maxRecDepth 100000 in
theorem days_call (w : World) (h : TabS w) : Calls Tryd.prog 44 #[.string dayS] w fun e w' => e = .returned (.slice (some ⟨w.heap.size, 0, none⟩) 7 7) ∧ w' = w.alloc (.cells dayA 9) := by
  have := Tryd.strings_Fields dayS w (by decide) (ascii_of (by decide +kernel)) h
  rw [fields_day] at this
  exact this
set_option maxRecDepth 100000 in
theorem mons_call (w : World) (h : TabS w) : Calls Tryd.prog 44 #[.string monS] w fun e w' => e = .returned (.slice (some ⟨w.heap.size, 0, none⟩) 12 12) ∧ w' = w.alloc (.cells monA 9) := by
  have := Tryd.strings_Fields monS w (by decide) (ascii_of (by decide +kernel)) h
  rw [fields_mon] at this
  exact this
/-- A calendar's cells. -/
def calC (d l : Int) (z dv mv : Value) : Array Value := #[.int .u32 d, .int .i32 l, z, dv, mv]
def CalIs (w : World) (p : Nat) (d l : Int) (z dv mv : Value) : Prop := w.heap[p]? = some (.cells (calC d l z dv mv) 50 (0, 0))
theorem CalIs.get {w : World} {p : Nat} {d l : Int} {z dv mv : Value} (h : CalIs w p d l z dv mv) : w.cell? ⟨p, 0, none⟩ = some (.int .u32 d) ∧ w.cell? ⟨p, 1, none⟩ = some (.int .i32 l) ∧ w.cell? ⟨p, 3, none⟩ = some dv ∧ w.cell? ⟨p, 4, none⟩ = some mv := by
  unfold CalIs at h
  refine ⟨?_, ?_, ?_, ?_⟩ <;> (rw [Lib.cell_of_heap h]; rfl)
theorem CalIs.free {w : World} {p : Nat} {d l : Int} {z dv mv : Value} (h : CalIs w p d l z dv mv) (i : Nat) : w.frozen? ⟨p, i, none⟩ = false := Lib.frozen_of_heap h i
theorem CalIs.set0 {w : World} {p : Nat} {d l : Int} {z dv mv : Value} (h : CalIs w p d l z dv mv) (d' : Int) : CalIs (w.setCell ⟨p, 0, none⟩ (.int .u32 d')) p d' l z dv mv := heap_setD h 0 _
theorem CalIs.set1 {w : World} {p : Nat} {d l : Int} {z dv mv : Value} (h : CalIs w p d l z dv mv) (l' : Int) : CalIs (w.setCell ⟨p, 1, none⟩ (.int .i32 l')) p d l' z dv mv := heap_setD h 1 _
theorem CalIs.set3 {w : World} {p : Nat} {d l : Int} {z dv mv : Value} (h : CalIs w p d l z dv mv) (u : Value) : CalIs (w.setCell ⟨p, 3, none⟩ u) p d l z u mv := heap_setD h 3 _
theorem CalIs.set4 {w : World} {p : Nat} {d l : Int} {z dv mv : Value} (h : CalIs w p d l z dv mv) (u : Value) : CalIs (w.setCell ⟨p, 4, none⟩ u) p d l z dv u := heap_setD h 4 _
theorem CalIs.spares {F : Nat → Prop} {w w' : World} {p : Nat} {d l : Int} {z dv mv : Value} (h : CalIs w p d l z dv mv) (hs : Spares F w w') (hF : ¬ F p) : CalIs w' p d l z dv mv := hs.heap h hF
/-- The names at hand. -/
def CalAt (w : World) (p : Nat) : Prop := ∃ (z : Value) (gd gm : Nat), CalIs w p 1 0 z (.slice (some ⟨gd, 0, none⟩) 7 7) (.slice (some ⟨gm, 0, none⟩) 12 12) ∧ w.heap[gd]? = some (.cells dayA 9 (0, 0)) ∧ w.heap[gm]? = some (.cells monA 9 (0, 0)) ∧ gd ≠ p ∧ gm ≠ p
def CalNew (w : World) (p : Nat) : Prop := CalIs w p 0 0 (.int .u32 0) (.slice none 0 0) (.slice none 0 0)
theorem CalAt.below {w w' : World} {p : Nat} (h : CalAt w p) (hb : Below w.heap.size w w') : CalAt w' p := by
  obtain ⟨z, gd, gm, h1, h2, h3, h4, h5⟩ := h
  have hs : Spares nowhere w w' := Below.spares hb (fun k hk => .inr hk)
  exact ⟨z, gd, gm, h1.spares hs (fun h => h), hs.heap h2 (fun h => h), hs.heap h3 (fun h => h), h4, h5⟩
set_option maxRecDepth 100000 in
set_option maxHeartbeats 8000000 in
theorem words1_any (p : Nat) (pl : Addr) (d l : Int) (z : Value) (w : World) (hp : w.cell? pl = some (.pointer (some ⟨p, 0, none⟩))) (hpl : pl.block < w.heap.size) (hne : pl.block ≠ p) (hg : CalIs w p d l z (.slice none 0 0) (.slice none 0 0)) (ht : Tabs w p) :
    Calls Tryd.prog 43 #[.pointer (some pl)] w fun e w' => e = .returned (.tuple #[]) ∧ (∃ gd gm, CalIs w' p d l z (.slice (some ⟨gd, 0, none⟩) 7 7) (.slice (some ⟨gm, 0, none⟩) 12 12) ∧ w'.heap[gd]? = some (.cells dayA 9 (0, 0)) ∧ w'.heap[gm]? = some (.cells monA 9 (0, 0)) ∧ gd ≠ p ∧ gm ≠ p) ∧ Spares (fun b => b = p) w w' := by
  have hlt : p < w.heap.size := (Array.getElem?_eq_some_iff.1 hg).1
  have hg0 := hg.get
  have c3 := hg0.2.2.1
  have c4 := hg0.2.2.2
  have f3 := hg.free 3
  have cD := fun (x : World) (hx : Spares nowhere w x) => days_call x ((ht.spares (hx.mono (fun _ h => by cases h))).space)
  unfold dayS at cD
  have CD := Lib.hid cD
  have HG := Lib.hid hg
  have HT := Lib.hid ht
  clear hg ht hg0 cD
  go_enter Tryd.func43, Tryd.ntmps43
  go_wp2_with fail
  go_region_with ((go_at_call 44; refine (CD.out _ (Spares.drew (Spares.refl _ _))).mono ?_; rintro e w2 ⟨rfl, rfl⟩))
  all_goals
    obtain ⟨v, hv⟩ : ∃ v, ((w.setCell ⟨p, 3, none⟩ (.slice (some ⟨w.heap.size, 0, none⟩) 7 7)).alloc (.cells dayA 9)).drew = v := ⟨_, rfl⟩
    rw [hv]
    have hs0 : Spares (fun b => b = p) w (w.setCell ⟨p, 3, none⟩ (.slice (some ⟨w.heap.size, 0, none⟩) 7 7)) := spares_setD (Spares.refl _ w) 3 _
    have hs1 : Spares nowhere (w.setCell ⟨p, 3, none⟩ (.slice (some ⟨w.heap.size, 0, none⟩) 7 7)) v := by rw [← hv]; exact ((Spares.refl _ _).alloc _).drew
    have hz0 : (w.setCell ⟨p, 3, none⟩ (.slice (some ⟨w.heap.size, 0, none⟩) 7 7)).heap.size = w.heap.size := by simp [World.setCell]
    have hg1 : CalIs v p d l z (.slice (some ⟨w.heap.size, 0, none⟩) 7 7) (.slice none 0 0) := (HG.out.set3 _).spares hs1 (fun h => h)
    have hd1 : v.heap[w.heap.size]? = some (.cells dayA 9 (0, 0)) := by
      have := heap_alloc_new (w.setCell ⟨p, 3, none⟩ (.slice (some ⟨w.heap.size, 0, none⟩) 7 7)) (.cells dayA 9)
      rw [hz0] at this
      rw [← hv]
      exact this
    have hsv : Spares (fun b => b = p) w v := hs0.trans (hs1.mono (fun _ h => by cases h))
    have hp1 : v.cell? pl = some (.pointer (some ⟨p, 0, none⟩)) := (hsv.cell hpl hne).trans hp
    have ht1 := HT.out.spares hsv
    have hzv : w.heap.size < v.heap.size := (Array.getElem?_eq_some_iff.1 hd1).1
    have hltv : p < v.heap.size := by omega
    have hplv : pl.block < v.heap.size := by omega
    have c4v := hg1.get.2.2.2
    have f4v := hg1.free 4
    have cM := fun (x : World) (hx : Spares nowhere v x) => mons_call x ((ht1.spares (hx.mono (fun _ h => by cases h))).space)
    unfold monS at cM
    have CM := Lib.hid cM
    have HG1 := Lib.hid hg1
    have HD1 := Lib.hid hd1
    have HS1 := Lib.hid hsv
    clear hv hs0 hs1 hz0 hg1 hd1 hsv ht1 cM c3 c4 f3 hp
    go_wp2_with fail
    go_region_with ((go_at_call 44; refine (CM.out _ (Spares.drew (Spares.refl _ _))).mono ?_; rintro e w2 ⟨rfl, rfl⟩))
    all_goals
      have hs2 : Spares (fun b => b = p) v (v.setCell ⟨p, 4, none⟩ (.slice (some ⟨v.heap.size, 0, none⟩) 12 12)) := spares_setD (Spares.refl _ v) 4 _
      have hs3 : Spares nowhere (v.setCell ⟨p, 4, none⟩ (.slice (some ⟨v.heap.size, 0, none⟩) 12 12)) ((v.setCell ⟨p, 4, none⟩ (.slice (some ⟨v.heap.size, 0, none⟩) 12 12)).alloc (.cells monA 9)).drew := ((Spares.refl _ _).alloc _).drew
      have hz2 : (v.setCell ⟨p, 4, none⟩ (.slice (some ⟨v.heap.size, 0, none⟩) 12 12)).heap.size = v.heap.size := by simp [World.setCell]
      have hd2 := heap_alloc_new (v.setCell ⟨p, 4, none⟩ (.slice (some ⟨v.heap.size, 0, none⟩) 12 12)) (.cells monA 9)
      rw [hz2] at hd2
      have H1 := Lib.hid ((HG1.out.set4 (.slice (some ⟨v.heap.size, 0, none⟩) 12 12)).spares hs3 (fun h => h))
      have H2 := Lib.hid (hs3.heap (hs2.heap HD1.out (by omega)) (fun h => h))
      have H3 := Lib.hid hd2
      have H4 := Lib.hid (HS1.out.trans (hs2.trans (hs3.mono (fun _ h => by cases h))))
      clear hs2 hs3 hz2 hd2
      go_wp2
      go_end0
      exact ⟨rfl, ⟨w.heap.size, v.heap.size, H1.out, H2.out, H3.out, by omega, by omega⟩, H4.out⟩
end Go.Proofs.YtfnpncmdeimcbaaDoor
