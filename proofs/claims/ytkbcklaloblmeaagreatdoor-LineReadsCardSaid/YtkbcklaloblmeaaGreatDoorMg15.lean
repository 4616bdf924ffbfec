/-
  The names of days and months, cut from one text each.
  words: the names at hand, cut the first time.
  The number that a text is.
  One number of a date.
-/
import Derived.Deep.RegionHeld3
import Derived.Lib.Fields
import Derived.Lib.LaidTab
import Derived.Test.YtkbcklaloblmeaaGreatDoorMg4
import Derived.Test.YtkbcklaloblmeaaGreatDoorMg13
namespace Go.Proofs.YtkbcklaloblmeaaGreatDoor
open Go.RowKit DateMath

theorem heap_setD {w : World} {g : Nat} {t : TypeId} {cs : Array Value} (h : w.heap[g]? = some (.cells cs t (0, 0))) (i : Nat) (u : Value) : (w.setCell ⟨g, i, none⟩ u).heap[g]? = some (.cells (cs.setIfInBounds i u) t (0, 0)) := by
  simp [World.setCell, Array.getElem?_modify, h]
theorem spares_setD {g : Nat} {w w' : World} (h : Spares (fun b => b = g) w w') (i : Nat) (u : Value) : Spares (fun b => b = g) w (w'.setCell ⟨g, i, none⟩ u) := h.setCell (p := ⟨g, i, none⟩) (.inl rfl) u
/-- The tables that the library reads lie in w, below B. -/
def TabP (w : World) : Prop := Lib.TabIs Tryz.prog w "internal/strconv.uint64pow10" .u64 Lib.pow10Tab
def TabS (w : World) : Prop := Lib.TabIs Tryz.prog w "strings.asciiSpace" .u8 Lib.asciiSpaceTab
theorem TabP.lt {w : World} (h : TabP w) : 0 < w.heap.size := by
  unfold TabP Lib.TabIs World.var? at h
  rw [show Tryz.prog.globalNamed "internal/strconv.uint64pow10" = some 0 by kernel_rfl] at h
  simp only [Option.bind_some] at h
  rcases Nat.lt_or_ge 0 w.heap.size with h' | h'
  · exact h'
  · rw [Array.getElem?_eq_none h'] at h; cases h
theorem TabS.lt {w : World} (h : TabS w) : 2 < w.heap.size := by
  unfold TabS Lib.TabIs World.var? at h
  rw [show Tryz.prog.globalNamed "strings.asciiSpace" = some 2 by kernel_rfl] at h
  simp only [Option.bind_some] at h
  rcases Nat.lt_or_ge 2 w.heap.size with h' | h'
  · exact h'
  · rw [Array.getElem?_eq_none h'] at h; cases h
theorem TabP.spares {F : Nat → Prop} {w w' : World} (h : TabP w) (hs : Spares F w w') (hF : ¬ F 0) : TabP w' := by
  have hlt := h.lt
  unfold TabP Lib.TabIs World.var? at h ⊢
  rw [show Tryz.prog.globalNamed "internal/strconv.uint64pow10" = some 0 by kernel_rfl] at h ⊢
  simp only [Option.bind_some] at h ⊢
  rw [hs.block 0 hlt hF]
  exact h
theorem TabS.spares {F : Nat → Prop} {w w' : World} (h : TabS w) (hs : Spares F w w') (hF : ¬ F 2) : TabS w' := by
  have hlt := h.lt
  unfold TabS Lib.TabIs World.var? at h ⊢
  rw [show Tryz.prog.globalNamed "strings.asciiSpace" = some 2 by kernel_rfl] at h ⊢
  simp only [Option.bind_some] at h ⊢
  rw [hs.block 2 hlt hF]
  exact h
/-- Both, at places below p. -/
structure Tabs (w : World) (p : Nat) : Prop where
  pow : TabP w
  space : TabS w
  one : 0 < p
  two : 2 < p
theorem Tabs.spares {w w' : World} {p : Nat} (h : Tabs w p) (hs : Spares (fun b => b = p) w w') : Tabs w' p :=
  ⟨h.pow.spares hs (by have := h.one; omega), h.space.spares hs (by have := h.two; omega), h.one, h.two⟩
theorem Tabs.below {w w' : World} {p : Nat} (h : Tabs w p) (hb : Below w.heap.size w w') : Tabs w' p :=
  h.spares (Below.spares hb (fun _ hk => .inr hk))
def dayA : Array Value := (dayL.map fun l => Value.string ⟨l.toArray⟩).toArray
def monA : Array Value := (monL.map fun l => Value.string ⟨l.toArray⟩).toArray
def dayS : ByteArray := ⟨#[83, 117, 110, 100, 97, 121, 32, 77, 111, 110, 100, 97, 121, 32, 84, 117, 101, 115, 100, 97, 121, 32, 87, 101, 100, 110, 101, 115, 100, 97, 121, 32, 84, 104, 117, 114, 115, 100, 97, 121, 32, 70, 114, 105, 100, 97, 121, 32, 83, 97, 116, 117, 114, 100, 97, 121]⟩
def monS : ByteArray := ⟨#[74, 97, 110, 32, 70, 101, 98, 32, 77, 97, 114, 32, 65, 112, 114, 32, 77, 97, 121, 32, 74, 117, 110, 32, 74, 117, 108, 32, 65, 117, 103, 32, 83, 101, 112, 32, 79, 99, 116, 32, 78, 111, 118, 32, 68, 101, 99]⟩
set_option maxRecDepth 100000 in
theorem fields_day : Lib.fields dayS.data.toList = dayL := by decide +kernel
set_option maxRecDepth 100000 in
theorem fields_mon : Lib.fields monS.data.toList = monL := by decide +kernel
theorem ascii_of {s : ByteArray} (h : s.data.toList.all (fun b => decide (b.toNat < 128)) = true) : ∀ (j : Nat) b, s.data.toList[j]? = some b → b.toNat < 128 := fun _j b hb => of_decide_eq_true (List.all_eq_true.1 h b (List.mem_of_getElem? hb))
set_option maxRecDepth 100000 in
theorem days_call (w : World) (h : TabS w) : Calls Tryz.prog 97 #[.string dayS] w fun e w' => e = .returned (.slice (some ⟨w.heap.size, 0, none⟩) 7 7) ∧ w' = w.alloc (.cells dayA 9) := by
  have := Tryz.strings_Fields dayS w (by decide) (ascii_of (by decide +kernel)) h
  rw [fields_day] at this
  exact this
set_option maxRecDepth 100000 in
theorem mons_call (w : World) (h : TabS w) : Calls Tryz.prog 97 #[.string monS] w fun e w' => e = .returned (.slice (some ⟨w.heap.size, 0, none⟩) 12 12) ∧ w' = w.alloc (.cells monA 9) := by
  have := Tryz.strings_Fields monS w (by decide) (ascii_of (by decide +kernel)) h
  rw [fields_mon] at this
  exact this
/-- A calendar's cells. -/
def calC (d l : Int) (z dv mv : Value) : Array Value := #[.int .u32 d, .int .i32 l, z, dv, mv]
def CalIs (w : World) (p : Nat) (d l : Int) (z dv mv : Value) : Prop := w.heap[p]? = some (.cells (calC d l z dv mv) 96 (0, 0))
theorem CalIs.get {w : World} {p : Nat} {d l : Int} {z dv mv : Value} (h : CalIs w p d l z dv mv) : w.cell? ⟨p, 0, none⟩ = some (.int .u32 d) ∧ w.cell? ⟨p, 1, none⟩ = some (.int .i32 l) ∧ w.cell? ⟨p, 3, none⟩ = some dv ∧ w.cell? ⟨p, 4, none⟩ = some mv := by
  unfold CalIs at h
  refine ⟨?_, ?_, ?_, ?_⟩ <;> (rw [Lib.cell_of_heap h]; rfl)
theorem CalIs.free {w : World} {p : Nat} {d l : Int} {z dv mv : Value} (h : CalIs w p d l z dv mv) (i : Nat) : w.frozen? ⟨p, i, none⟩ = false := Lib.frozen_of_heap h i
theorem CalIs.set0 {w : World} {p : Nat} {d l : Int} {z dv mv : Value} (h : CalIs w p d l z dv mv) (d' : Int) : CalIs (w.setCell ⟨p, 0, none⟩ (.int .u32 d')) p d' l z dv mv := heap_setD h 0 _
theorem CalIs.set1 {w : World} {p : Nat} {d l : Int} {z dv mv : Value} (h : CalIs w p d l z dv mv) (l' : Int) : CalIs (w.setCell ⟨p, 1, none⟩ (.int .i32 l')) p d l' z dv mv := heap_setD h 1 _
theorem CalIs.set3 {w : World} {p : Nat} {d l : Int} {z dv mv : Value} (h : CalIs w p d l z dv mv) (u : Value) : CalIs (w.setCell ⟨p, 3, none⟩ u) p d l z u mv := heap_setD h 3 _
theorem CalIs.set4 {w : World} {p : Nat} {d l : Int} {z dv mv : Value} (h : CalIs w p d l z dv mv) (u : Value) : CalIs (w.setCell ⟨p, 4, none⟩ u) p d l z dv u := heap_setD h 4 _
theorem CalIs.spares {F : Nat → Prop} {w w' : World} {p : Nat} {d l : Int} {z dv mv : Value} (h : CalIs w p d l z dv mv) (hs : Spares F w w') (hF : ¬ F p) : CalIs w' p d l z dv mv := hs.heap h hF
/-- The names at hand. -/
def CalAt (w : World) (p : Nat) : Prop := ∃ (z : Value) (gd gm : Nat), CalIs w p 1 0 z (.slice (some ⟨gd, 0, none⟩) 7 7) (.slice (some ⟨gm, 0, none⟩) 12 12) ∧ w.heap[gd]? = some (.cells dayA 9 (0, 0)) ∧ w.heap[gm]? = some (.cells monA 9 (0, 0)) ∧ gd ≠ p ∧ gm ≠ p
def CalNew (w : World) (p : Nat) : Prop := CalIs w p 0 0 (.int .u32 0) (.slice none 0 0) (.slice none 0 0)
theorem CalAt.below {w w' : World} {p : Nat} (h : CalAt w p) (hb : Below w.heap.size w w') : CalAt w' p := by
  obtain ⟨z, gd, gm, h1, h2, h3, h4, h5⟩ := h
  have hs : Spares nowhere w w' := Below.spares hb (fun k hk => .inr hk)
  exact ⟨z, gd, gm, h1.spares hs (fun h => h), hs.heap h2 (fun h => h), hs.heap h3 (fun h => h), h4, h5⟩
set_option maxRecDepth 100000 in
set_option maxHeartbeats 8000000 in
theorem words1_any (p : Nat) (pl : Addr) (d l : Int) (z : Value) (w : World) (hp : w.cell? pl = some (.pointer (some ⟨p, 0, none⟩))) (hpl : pl.block < w.heap.size) (hne : pl.block ≠ p) (hg : CalIs w p d l z (.slice none 0 0) (.slice none 0 0)) (ht : Tabs w p) :
    Calls Tryz.prog 96 #[.pointer (some pl)] w fun e w' => e = .returned (.tuple #[]) ∧ (∃ gd gm, CalIs w' p d l z (.slice (some ⟨gd, 0, none⟩) 7 7) (.slice (some ⟨gm, 0, none⟩) 12 12) ∧ w'.heap[gd]? = some (.cells dayA 9 (0, 0)) ∧ w'.heap[gm]? = some (.cells monA 9 (0, 0)) ∧ gd ≠ p ∧ gm ≠ p) ∧ Spares (fun b => b = p) w w' := by
  have hlt : p < w.heap.size := (Array.getElem?_eq_some_iff.1 hg).1
  have hg0 := hg.get
  have c3 := hg0.2.2.1
  have c4 := hg0.2.2.2
  have f3 := hg.free 3
  have cD := fun (x : World) (hx : Spares nowhere w x) => days_call x ((ht.spares (hx.mono (fun _ h => by cases h))).space)
  unfold dayS at cD
  have CD := Lib.hid cD
  have HG := Lib.hid hg
  have HT := Lib.hid ht
  clear hg ht hg0 cD
  go_enter Tryz.func96, Tryz.ntmps96
  go_wp2_with fail
  go_region_with ((go_at_call 97; refine (CD.out _ (Spares.drew (Spares.refl _ _))).mono ?_; rintro e w2 ⟨rfl, rfl⟩))
  all_goals
    obtain ⟨v, hv⟩ : ∃ v, ((w.setCell ⟨p, 3, none⟩ (.slice (some ⟨w.heap.size, 0, none⟩) 7 7)).alloc (.cells dayA 9)).drew = v := ⟨_, rfl⟩
    rw [hv]
    have hs0 : Spares (fun b => b = p) w (w.setCell ⟨p, 3, none⟩ (.slice (some ⟨w.heap.size, 0, none⟩) 7 7)) := spares_setD (Spares.refl _ w) 3 _
    have hs1 : Spares nowhere (w.setCell ⟨p, 3, none⟩ (.slice (some ⟨w.heap.size, 0, none⟩) 7 7)) v := by rw [← hv]; exact ((Spares.refl _ _).alloc _).drew
    have hz0 : (w.setCell ⟨p, 3, none⟩ (.slice (some ⟨w.heap.size, 0, none⟩) 7 7)).heap.size = w.heap.size := by simp [World.setCell]
    have hg1 : CalIs v p d l z (.slice (some ⟨w.heap.size, 0, none⟩) 7 7) (.slice none 0 0) := (HG.out.set3 _).spares hs1 (fun h => h)
    have hd1 : v.heap[w.heap.size]? = some (.cells dayA 9 (0, 0)) := by
      have := heap_alloc_new (w.setCell ⟨p, 3, none⟩ (.slice (some ⟨w.heap.size, 0, none⟩) 7 7)) (.cells dayA 9)
      rw [hz0] at this
      rw [← hv]
      exact this
    have hsv : Spares (fun b => b = p) w v := hs0.trans (hs1.mono (fun _ h => by cases h))
    have hp1 : v.cell? pl = some (.pointer (some ⟨p, 0, none⟩)) := (hsv.cell hpl hne).trans hp
    have ht1 := HT.out.spares hsv
    have hzv : w.heap.size < v.heap.size := (Array.getElem?_eq_some_iff.1 hd1).1
    have hltv : p < v.heap.size := by omega
    have hplv : pl.block < v.heap.size := by omega
    have c4v := hg1.get.2.2.2
    have f4v := hg1.free 4
    have cM := fun (x : World) (hx : Spares nowhere v x) => mons_call x ((ht1.spares (hx.mono (fun _ h => by cases h))).space)
    unfold monS at cM
    have CM := Lib.hid cM
    have HG1 := Lib.hid hg1
    have HD1 := Lib.hid hd1
    have HS1 := Lib.hid hsv
    clear hv hs0 hs1 hz0 hg1 hd1 hsv ht1 cM c3 c4 f3 hp
    go_wp2_with fail
    go_region_with ((go_at_call 97; refine (CM.out _ (Spares.drew (Spares.refl _ _))).mono ?_; rintro e w2 ⟨rfl, rfl⟩))
    all_goals
      have hs2 : Spares (fun b => b = p) v (v.setCell ⟨p, 4, none⟩ (.slice (some ⟨v.heap.size, 0, none⟩) 12 12)) := spares_setD (Spares.refl _ v) 4 _
      have hs3 : Spares nowhere (v.setCell ⟨p, 4, none⟩ (.slice (some ⟨v.heap.size, 0, none⟩) 12 12)) ((v.setCell ⟨p, 4, none⟩ (.slice (some ⟨v.heap.size, 0, none⟩) 12 12)).alloc (.cells monA 9)).drew := ((Spares.refl _ _).alloc _).drew
      have hz2 : (v.setCell ⟨p, 4, none⟩ (.slice (some ⟨v.heap.size, 0, none⟩) 12 12)).heap.size = v.heap.size := by simp [World.setCell]
      have hd2 := heap_alloc_new (v.setCell ⟨p, 4, none⟩ (.slice (some ⟨v.heap.size, 0, none⟩) 12 12)) (.cells monA 9)
      rw [hz2] at hd2
      have H1 := Lib.hid ((HG1.out.set4 (.slice (some ⟨v.heap.size, 0, none⟩) 12 12)).spares hs3 (fun h => h))
      have H2 := Lib.hid (hs3.heap (hs2.heap HD1.out (by omega)) (fun h => h))
      have H3 := Lib.hid hd2
      have H4 := Lib.hid (HS1.out.trans (hs2.trans (hs3.mono (fun _ h => by cases h))))
      clear hs2 hs3 hz2 hd2
      go_wp2
      go_end0
      exact ⟨rfl, ⟨w.heap.size, v.heap.size, H1.out, H2.out, H3.out, by omega, by omega⟩, H4.out⟩
end Go.Proofs.YtkbcklaloblmeaaGreatDoor
namespace Go.Proofs.YtkbcklaloblmeaaGreatDoor
open Go.RowKit DateMath

def NamesAt (d l : Int) (z : Value) (w : World) (p : Nat) : Prop := ∃ gd gm, CalIs w p d l z (.slice (some ⟨gd, 0, none⟩) 7 7) (.slice (some ⟨gm, 0, none⟩) 12 12) ∧ w.heap[gd]? = some (.cells dayA 9 (0, 0)) ∧ w.heap[gm]? = some (.cells monA 9 (0, 0)) ∧ gd ≠ p ∧ gm ≠ p
theorem NamesAt.set0 {d l : Int} {z : Value} {w : World} {p : Nat} (h : NamesAt d l z w p) (d' : Int) : NamesAt d' l z (w.setCell ⟨p, 0, none⟩ (.int .u32 d')) p := by
  obtain ⟨gd, gm, h1, h2, h3, h4, h5⟩ := h
  have hs : Spares (fun b => b = p) w (w.setCell ⟨p, 0, none⟩ (.int .u32 d')) := spares_setD (Spares.refl _ w) 0 _
  exact ⟨gd, gm, h1.set0 _, hs.heap h2 h4, hs.heap h3 h5, h4, h5⟩
theorem NamesAt.set1 {d l : Int} {z : Value} {w : World} {p : Nat} (h : NamesAt d l z w p) (l' : Int) : NamesAt d l' z (w.setCell ⟨p, 1, none⟩ (.int .i32 l')) p := by
  obtain ⟨gd, gm, h1, h2, h3, h4, h5⟩ := h
  have hs : Spares (fun b => b = p) w (w.setCell ⟨p, 1, none⟩ (.int .i32 l')) := spares_setD (Spares.refl _ w) 1 _
  exact ⟨gd, gm, h1.set1 _, hs.heap h2 h4, hs.heap h3 h5, h4, h5⟩
theorem NamesAt.spares {F : Nat → Prop} {d l : Int} {z : Value} {w w' : World} {p : Nat} (h : NamesAt d l z w p) (hs : Spares F w w') (hF : ∀ b, ¬ F b) : NamesAt d l z w' p := by
  obtain ⟨gd, gm, h1, h2, h3, h4, h5⟩ := h
  exact ⟨gd, gm, h1.spares hs (hF _), hs.heap h2 (hF _), hs.heap h3 (hF _), h4, h5⟩
set_option maxRecDepth 100000 in
set_option maxHeartbeats 1600000 in
theorem slowD_any (p : Nat) (pl : Addr) (z : Value) (w : World) (hp : w.cell? pl = some (.pointer (some ⟨p, 0, none⟩))) (hpl : pl.block < w.heap.size) (hne : pl.block ≠ p) (hg : CalIs w p 0 0 z (.slice none 0 0) (.slice none 0 0)) (ht : Tabs w p) :
    Calls Tryz.prog 109 #[.pointer (some ⟨p, 0, none⟩), .func (.func 96) #[] #[.pointer (some pl)]] w fun e w' => e = .returned (.tuple #[]) ∧ NamesAt 1 0 z w' p ∧ Spares (fun b => b = p) w w' := by
  have hg1 := hg.set1 1
  have c1 := hg.get.2.1
  have f1 := hg.free 1
  have hs1 : Spares (fun b => b = p) w (w.setCell ⟨p, 1, none⟩ (.int .i32 1)) := spares_setD (Spares.refl _ w) 1 _
  have hp1 : (w.setCell ⟨p, 1, none⟩ (.int .i32 1)).cell? pl = some (.pointer (some ⟨p, 0, none⟩)) := (hs1.cell hpl hne).trans hp
  have hl := run_call_load (P := Tryz.prog) Tryz.func118 (by kernel_rfl) (by kernel_rfl) (by kernel_rfl) .u32 (by kernel_rfl) (w := w.setCell ⟨p, 1, none⟩ (.int .i32 1)) (a := ⟨p, 0, none⟩) (x := 0) hg1.get.1
  have hnot : ∀ (x : Bool) (w : World), (Op.unary .not (.bool x)).run Tryz.prog w = .ok (.bool (!x)) w := fun _ _ => rfl
  have CW := Lib.hid (words1_any p pl 0 1 z _ hp1 (Nat.lt_of_lt_of_le hpl hs1.size) hne hg1 (ht.spares hs1))
  have HS1 := Lib.hid hs1
  clear hg hg1 hs1 hp hp1 ht hpl hne
  go_enter_defers Tryz.func109, Tryz.ntmps109
  go_wp2_with (first | (go_at_call 119; refine (lock_free ⟨p, 1, none⟩ _ c1 f1).mono ?_; rintro e w' ⟨rfl, rfl⟩) | (go_at_call 108; go_in) | (go_at_call 96; refine CW.out.mono ?_; rintro e w2 ⟨rfl, hg2, hs2⟩))
  have hN : NamesAt 0 1 z w2.drew p := NamesAt.spares hg2 ((Spares.refl nowhere w2).drew) (fun _ h => h)
  have hS : Spares (fun b => b = p) w w2.drew := (HS1.out.trans hs2).drew
  clear hg2 hs2
  have hN2 := hN.set0 1
  obtain ⟨gd, gm, hC, _⟩ := id hN
  obtain ⟨gd2, gm2, hC2, _⟩ := id hN2
  have q0 : w2.cell? ⟨p, 0, none⟩ = some (.int .u32 0) := hC.get.1
  have qf : w2.frozen? ⟨p, 0, none⟩ = false := hC.free 0
  refine leaves_cons (f := 121) (args := #[.pointer (some ⟨p, 0, none⟩), .bool true]) (by simp) (by simp [go_sem]) ?_
  refine (store_deferred ⟨p, 0, none⟩ (.int .u32 0) .returning _ q0 qf).mono ?_
  rintro e u' w'' ⟨rfl, rfl, rfl⟩
  have hS3 := spares_setD hS 0 (.int .u32 1)
  refine leaves_cons (f := 120) (args := #[.pointer (some ⟨p, 1, none⟩)]) (by simp [settle]) (by simp [go_sem]) ?_
  refine (unlock_deferred ⟨p, 1, none⟩ _ _ hC2.get.2.1 (hC2.free 1)).mono ?_
  rintro e u' w'' ⟨rfl, rfl, rfl⟩
  have hN4 := hN2.set1 0
  have hS4 := spares_setD hS3 1 (.int .i32 0)
  simp [Leaves, settle, results, Tryz.results109]
  exact ⟨hN4, hS4⟩
set_option maxRecDepth 100000 in
set_option maxHeartbeats 1600000 in
theorem doD_first (p : Nat) (pl : Addr) (z : Value) (w : World) (hp : w.cell? pl = some (.pointer (some ⟨p, 0, none⟩))) (hpl : pl.block < w.heap.size) (hne : pl.block ≠ p) (hg : CalIs w p 0 0 z (.slice none 0 0) (.slice none 0 0)) (ht : Tabs w p) :
    Calls Tryz.prog 95 #[.pointer (some ⟨p, 0, none⟩), .func (.func 96) #[] #[.pointer (some pl)]] w fun e w' => e = .returned (.tuple #[]) ∧ NamesAt 1 0 z w' p ∧ Spares (fun b => b = p) w w' := by
  have hl := run_call_load (P := Tryz.prog) Tryz.func118 (by kernel_rfl) (by kernel_rfl) (by kernel_rfl) .u32 (by kernel_rfl) hg.get.1
  have hnot : ∀ (x : Bool) (w : World), (Op.unary .not (.bool x)).run Tryz.prog w = .ok (.bool (!x)) w := fun _ _ => rfl
  have HC := Lib.hid (slowD_any p pl z w hp hpl hne hg ht)
  clear hp hg hpl hne ht
  go_enter Tryz.func95, Tryz.ntmps95
  go_wp2_with (first | (go_at_call 109; refine HC.out.mono ?_; rintro e w' ⟨rfl, hg2, hs2⟩) | (go_at_call 108; go_in))
  go_end0
  exact ⟨rfl, hg2, hs2⟩
theorem doD_done (a : Addr) (d : Int) (hd : ¬ d = 0) (fv : Value) (w : World) (h0 : w.cell? a = some (.int .u32 d)) :
    Calls Tryz.prog 95 #[.pointer (some a), fv] w fun e w' => e = .returned (.tuple #[]) ∧ w' = w := by
  have hl := run_call_load (P := Tryz.prog) Tryz.func118 (by kernel_rfl) (by kernel_rfl) (by kernel_rfl) .u32 (by kernel_rfl) h0
  have hnot : ∀ (x : Bool) (w : World), (Op.unary .not (.bool x)).run Tryz.prog w = .ok (.bool (!x)) w := fun _ _ => rfl
  have hd' : (d != 0) = true := by simp [hd]
  go_enter Tryz.func95, Tryz.ntmps95
  go_wp2
  go_end0
  exact ⟨rfl, rfl⟩
/-- What words leaves. -/
def WordsPost (p : Nat) (w : World) (e : Ending) (w' : World) : Prop := e = .returned (.pointer (some ⟨p, 3, none⟩)) ∧ CalAt w' p ∧ Spares (fun b => b = p) w w'
theorem cal_names {w : World} {p : Nat} {z : Value} (h : NamesAt 1 0 z w p) : CalAt w p := by
  obtain ⟨gd, gm, h⟩ := h
  exact ⟨z, gd, gm, h⟩
set_option maxRecDepth 100000 in
set_option maxHeartbeats 1600000 in
theorem wordsD_first (p : Nat) (w : World) (hg : CalNew w p) (ht : Tabs w p) : Calls Tryz.prog 74 #[.pointer (some ⟨p, 0, none⟩)] w (WordsPost p w) := by
  have hp : p < w.heap.size := (Array.getElem?_eq_some_iff.1 hg).1
  have hmf : ∀ (fn : Fn) (first cap : Array Value) (w : World), (Instr.makeFunc fn first cap).run Tryz.prog w = .ok (.func fn first cap) w := fun _ _ _ _ => rfl
  have hs0 : Spares nowhere w (w.alloc (.cells #[.pointer (some ⟨p, 0, none⟩)] 119)) := (Spares.refl _ _).alloc _
  have hb0 := heap_alloc_new w (.cells #[.pointer (some ⟨p, 0, none⟩)] 119)
  have HC := Lib.hid (doD_first p ⟨w.heap.size, 0, none⟩ (.int .u32 0) (w.alloc (.cells #[.pointer (some ⟨p, 0, none⟩)] 119)) ((Lib.cell_of_heap hb0 0).trans rfl) (by simp) (by show w.heap.size ≠ p; omega) (CalIs.spares hg hs0 (fun h => h)) (ht.spares (hs0.mono (fun _ h => by cases h))))
  have HB := Lib.hid hb0
  have HS := Lib.hid hs0
  clear hg hs0 hb0 ht
  unfold WordsPost
  go_enter Tryz.func74, Tryz.ntmps74
  go_wp2_with fail
  refine HC.out.mono ?_
  rintro e w2 ⟨rfl, hg2, hs2⟩
  have hb2 := hs2.heap HB.out (by omega)
  have c2 : w2.cell? ⟨w.heap.size, 0, none⟩ = some (.pointer (some ⟨p, 0, none⟩)) := by rw [Lib.cell_of_heap hb2]; rfl
  have HG := Lib.hid (cal_names hg2)
  have HS2 := Lib.hid (Spares.trans' (F := fun b => b = p) (HS.out.mono (fun _ h => by cases h)) hs2 (fun b hb => .inl hb))
  clear hg2 hs2 hb2
  go_wp2
  go_ret
  exact ⟨rfl, HG.out, HS2.out⟩
set_option maxRecDepth 100000 in
theorem wordsD_again (p : Nat) (w : World) (hg : CalAt w p) : Calls Tryz.prog 74 #[.pointer (some ⟨p, 0, none⟩)] w (WordsPost p w) := by
  have hp : p < w.heap.size := by obtain ⟨z, gd, gm, h, _⟩ := hg; exact (Array.getElem?_eq_some_iff.1 h).1
  have hmf : ∀ (fn : Fn) (first cap : Array Value) (w : World), (Instr.makeFunc fn first cap).run Tryz.prog w = .ok (.func fn first cap) w := fun _ _ _ _ => rfl
  have hs0 : Spares nowhere w (w.alloc (.cells #[.pointer (some ⟨p, 0, none⟩)] 119)) := (Spares.refl _ _).alloc _
  have hg1 := hg.below hs0.below0
  have h0 : (w.alloc (.cells #[.pointer (some ⟨p, 0, none⟩)] 119)).cell? ⟨p, 0, none⟩ = some (.int .u32 1) := by obtain ⟨z, gd, gm, h, _⟩ := hg1; exact h.get.1
  have HC := Lib.hid (fun fv => doD_done ⟨p, 0, none⟩ 1 (by decide) fv (w.alloc (.cells #[.pointer (some ⟨p, 0, none⟩)] 119)) h0)
  have HG := Lib.hid hg1
  have HS := Lib.hid hs0
  clear hg hs0 hg1 h0
  unfold WordsPost
  go_enter Tryz.func74, Tryz.ntmps74
  go_wp2_with fail
  refine (HC.out _).mono ?_
  rintro e w2 ⟨rfl, rfl⟩
  go_wp2
  go_ret
  exact ⟨rfl, HG.out, HS.out.mono (fun _ h => by cases h)⟩
theorem wordsD_any (p : Nat) (w : World) (hg : CalNew w p ∨ CalAt w p) (ht : Tabs w p) : Calls Tryz.prog 74 #[.pointer (some ⟨p, 0, none⟩)] w (WordsPost p w) := by
  rcases hg with h | h
  · exact wordsD_first p w h ht
  · exact wordsD_again p w h
end Go.Proofs.YtkbcklaloblmeaaGreatDoor
namespace Go.Proofs.YtkbcklaloblmeaaGreatDoor
open Go.RowKit DateMath

set_option maxHeartbeats 4000000 in
theorem digD_any (c : UInt8) (w : World) : Calls Tryz.prog 84 #[.int .u8 c.toNat] w fun e w' => e = .returned (.bool (digitD c)) ∧ w' = w := by
  have hl := c.toNat_lt
  have hd : digitD c = decide (48 ≤ c.toNat ∧ c.toNat ≤ 57) := rfl
  obtain ⟨n, hn⟩ : ∃ n, c.toNat = n := ⟨_, rfl⟩
  rw [hn] at hl hd ⊢
  have HD := Lib.hid hd
  clear hd hn
  by_cases h1 : 48 ≤ n
  · have d1 : decide (48 ≤ (n : Int)) = true := by simpa using (by omega : (48 : Int) ≤ n)
    by_cases h2 : n ≤ 57
    · have d2 : decide ((n : Int) ≤ 57) = true := by simpa using (by omega : (n : Int) ≤ 57)
      go_enter Tryz.func84, Tryz.ntmps84
      go_wp2
      go_ret
      exact ⟨by rw [HD.out]; simp [h1, h2], rfl⟩
    · have d2 : decide ((n : Int) ≤ 57) = false := by simpa using (by omega : (57 : Int) < n)
      go_enter Tryz.func84, Tryz.ntmps84
      go_wp2
      go_ret
      exact ⟨by rw [HD.out]; simp [h2], rfl⟩
  · have d1 : decide (48 ≤ (n : Int)) = false := by simpa using (by omega : (n : Int) < 48)
    go_enter Tryz.func84, Tryz.ntmps84
    go_wp2
    go_ret
    exact ⟨by rw [HD.out]; simp [h1], rfl⟩
theorem valD_snoc (l : Bs) (c : UInt8) : valD (l ++ [c]) = valD l * 10 + (c.toNat - 48) := by unfold valD; rw [List.foldl_append]; rfl
theorem foldD_lt : ∀ (l : Bs) (n : Nat), l.all digitD = true → l.foldl (fun n c => n * 10 + (c.toNat - 48)) n < (n + 1) * 10 ^ l.length
  | [], n, _ => by simp
  | c :: l, n, h => by
    rw [List.all_cons, Bool.and_eq_true] at h
    have ih := foldD_lt l (n * 10 + (c.toNat - 48)) h.2
    have hc := h.1
    unfold digitD at hc
    rw [decide_eq_true_iff] at hc
    rw [List.foldl_cons, List.length_cons, Nat.pow_succ]
    have h2 : (n * 10 + (c.toNat - 48) + 1) * 10 ^ l.length ≤ ((n + 1) * 10) * 10 ^ l.length := Nat.mul_le_mul_right _ (by omega)
    have e : (n + 1) * (10 ^ l.length * 10) = ((n + 1) * 10) * 10 ^ l.length := by rw [Nat.mul_comm (10 ^ l.length) 10, Nat.mul_assoc]
    omega
theorem valD_lt (l : Bs) (h : l.all digitD = true) : valD l < 10 ^ l.length := by
  have := foldD_lt l 0 h
  unfold valD
  omega
theorem take_snocD (s : ByteArray) (k : Nat) (h : k < s.size) : s.data.toList.take (k + 1) = s.data.toList.take k ++ [s[k]] := by
  rw [List.take_succ_eq_append_getElem (by simpa using h)]; rfl
def numV (o : Option Nat) : Value := .tuple #[.int .i64 (o.getD 0 : Nat), .bool o.isSome]
set_option maxRecDepth 100000 in
set_option maxHeartbeats 4000000 in
theorem numberD_any (s : ByteArray) (most : Nat) (w : World) (hm : most ≤ 18) (hs : s.size ≤ 9223372036854775807) : Calls Tryz.prog 60 #[.string s, .int .i64 most] w fun e w' => e = .returned (numV (numF s.data.toList most)) ∧ w' = w := by
  have hl : s.data.toList.length = s.size := by simp
  have HN : Hid (numF s.data.toList most = if s.size ≠ 0 ∧ s.size ≤ most ∧ s.data.toList.all digitD = true then some (valD s.data.toList) else none) := Lib.hid (by unfold numF; rw [hl])
  by_cases h0 : s.size = 0
  · have e0 : (((s.size : Nat) : Int) == 0) = true := by rw [h0]; rfl
    have HE : Hid (numF s.data.toList most = none) := Lib.hid (by rw [HN.out, if_neg (fun h => h.1 h0)])
    clear h0
    go_enter Tryz.func60, Tryz.ntmps60
    go_wp2
    go_ret2
    exact ⟨by rw [HE.out]; rfl, rfl⟩
  by_cases h1 : most < s.size
  · have e0 : (((s.size : Nat) : Int) == 0) = false := by simpa using (by omega : ¬ (s.size : Int) = 0)
    have HE : Hid (numF s.data.toList most = none) := Lib.hid (by rw [HN.out, if_neg (fun h => by omega)])
    have e1 : decide ((most : Int) < (s.size : Int)) = true := by simpa using (by omega : (most : Int) < s.size)
    have e2 : decide (most < s.size) = true := by simpa using h1
    go_enter Tryz.func60, Tryz.ntmps60
    go_wp2
    go_ret2
    exact ⟨by rw [HE.out]; rfl, rfl⟩
  have e0 : (((s.size : Nat) : Int) == 0) = false := by simpa using (by omega : ¬ (s.size : Int) = 0)
  have e1 : decide ((most : Int) < (s.size : Int)) = false := by simpa using (by omega : (s.size : Int) ≤ most)
  have e2 : decide (most < s.size) = false := by simpa using h1
  have hs18 : s.size ≤ 18 := by omega
  have HA : Hid (numF s.data.toList most = if s.data.toList.all digitD = true then some (valD s.data.toList) else none) := Lib.hid (by
    rw [HN.out]
    by_cases h : s.data.toList.all digitD = true
    · rw [if_pos h, if_pos ⟨h0, by omega, h⟩]
    · rw [if_neg h, if_neg (fun h' => h h'.2.2)])
  clear HN h0 h1
  go_enter Tryz.func60, Tryz.ntmps60
  go_wp2
  go_loop [6, 19] (fun n i => ∃ k : Nat, k ≤ s.size ∧ i = .int .i64 k ∧ n = .int .i64 (valD (s.data.toList.take k)) ∧ Hid ((s.data.toList.take k).all digitD = true)) (fun _ i => s.size - (intOf i).toNat)
  case atStart => exact ⟨0, Nat.zero_le _, rfl, rfl, Lib.hid rfl⟩
  case round =>
    obtain ⟨k, hk, rfl, rfl, HK⟩ := hrel
    by_cases hlt : k < s.size
    · have hts := take_snocD s k hlt
      have hb := valD_lt _ HK.out
      have hkl : (s.data.toList.take k).length = k := by rw [List.length_take]; omega
      rw [hkl] at hb
      have hp : (10 : Nat) ^ k ≤ 10 ^ 17 := Nat.pow_le_pow_right (by decide) (by omega)
      have hv : valD (s.data.toList.take k) ≤ 99999999999999999 := by
        rw [show (10 : Nat) ^ 17 = 100000000000000000 from by decide] at hp
        omega
      have hsn := valD_snoc (s.data.toList.take k) s[k]
      have hc := s[k].toNat_lt
      have CD : Hid (∀ w, Calls Tryz.prog 84 #[.int .u8 s[k].toNat] w fun e w' => e = .returned (.bool (digitD s[k])) ∧ w' = w) := Lib.hid (fun w => digD_any s[k] w)
      have HT : Hid (valD (s.data.toList.take (k + 1)) = valD (s.data.toList.take k) * 10 + (s[k].toNat - 48)) := Lib.hid (by rw [hts, hsn])
      have HTA : Hid ((s.data.toList.take (k + 1)).all digitD = ((s.data.toList.take k).all digitD && digitD s[k])) := Lib.hid (by rw [hts]; simp)
      have hdd : digitD s[k] = decide (48 ≤ s[k].toNat ∧ s[k].toNat ≤ 57) := rfl
      have hmem : s[k] ∈ s.data.toList := List.mem_iff_getElem.2 ⟨k, by omega, by simp; rfl⟩
      obtain ⟨V, hV⟩ : ∃ V, valD (s.data.toList.take k) = V := ⟨_, rfl⟩
      rw [hV] at hv HT ⊢
      clear hts hb hkl hp hsn hV
      by_cases hd : digitD s[k] = true
      · have hd2 := hd
        rw [hdd, decide_eq_true_iff] at hd2
        have CT : Hid (∀ w, Calls Tryz.prog 84 #[.int .u8 s[k].toNat] w fun e w' => e = .returned (.bool true) ∧ w' = w) := Lib.hid (fun w => hd ▸ CD.out w)
        have HTA2 : Hid ((s.data.toList.take (k + 1)).all digitD = true) := Lib.hid (by rw [HTA.out, HK.out, hd]; rfl)
        have g1 : (48 : Int) ≤ (s[k].toNat : Int) := by omega
        have g2 : (s[k].toNat : Int) ≤ 57 := by omega
        clear hd hdd hd2 CD hmem
        go_wp2_with fail
        refine (CT.out w).mono ?_
        rintro e w' ⟨rfl, rfl⟩
        go_wp2
        go_round
        case rel => exact ⟨k + 1, by omega, by go_num, by rw [HT.out]; congr 1; omega, HTA2⟩
        case measure => simp [intOf]; omega
      · have hd' : digitD s[k] = false := by simpa using hd
        have CT : Hid (∀ w, Calls Tryz.prog 84 #[.int .u8 s[k].toNat] w fun e w' => e = .returned (.bool false) ∧ w' = w) := Lib.hid (fun w => hd' ▸ CD.out w)
        have HE : Hid (numF s.data.toList most = none) := Lib.hid (by
          rw [HA.out, if_neg]
          intro h
          have := List.all_eq_true.1 h _ hmem
          rw [hd'] at this
          cases this)
        clear hd hdd hd' CD hmem
        go_wp2_with fail
        refine (CT.out w).mono ?_
        rintro e w' ⟨rfl, rfl⟩
        go_wp2
        go_ret2
        exact ⟨by rw [HE.out]; rfl, rfl⟩
    · obtain rfl : k = s.size := by omega
      have ht : s.data.toList.take s.size = s.data.toList := List.take_of_length_le (by omega)
      rw [ht] at HK ⊢
      have HE : Hid (numF s.data.toList most = some (valD s.data.toList)) := Lib.hid (by rw [HA.out, if_pos HK.out])
      clear ht
      go_wp2
      go_ret2
      exact ⟨by rw [HE.out]; rfl, rfl⟩
end Go.Proofs.YtkbcklaloblmeaaGreatDoor
namespace Go.Proofs.YtkbcklaloblmeaaGreatDoor
open Go.RowKit DateMath

set_option maxRecDepth 100000 in
set_option maxHeartbeats 4000000 in
/-- take: the number goes into g's cell j, the flag into f's cell. -/
theorem take_any (s : ByteArray) (g j f : Nat) (old : Value) (b : Bool) (w : World) (hs : s.size ≤ 9223372036854775807) (hgf : g ≠ f)
    (hg : w.cell? ⟨g, j, none⟩ = some old) (hgz : w.frozen? ⟨g, j, none⟩ = false) (hf : w.cell? ⟨f, 0, none⟩ = some (.bool b)) (hfz : w.frozen? ⟨f, 0, none⟩ = false) :
    Calls Tryz.prog 79 #[.string s, .pointer (some ⟨g, j, none⟩), .pointer (some ⟨f, 0, none⟩)] w fun e w' => e = .returned (.tuple #[]) ∧ w' = (w.setCell ⟨g, j, none⟩ (.int .i64 ((numF s.data.toList 4).getD 0 : Nat))).setCell ⟨f, 0, none⟩ (.bool (b && (numF s.data.toList 4).isSome)) := by
  have c := numberD_any s 4 w (by decide) hs
  unfold numV at c
  obtain ⟨n, hn⟩ : ∃ n, (numF s.data.toList 4).getD 0 = n := ⟨_, rfl⟩
  obtain ⟨o, ho⟩ : ∃ o, (numF s.data.toList 4).isSome = o := ⟨_, rfl⟩
  rw [hn, ho] at c ⊢
  have C := Lib.hid c
  have hf2 : (w.setCell ⟨g, j, none⟩ (.int .i64 n)).cell? ⟨f, 0, none⟩ = some (.bool b) := (World.cell?_setCell_other _ ⟨g, j, none⟩ ⟨f, 0, none⟩ _ (fun h => hgf (by cases h; rfl))).trans hf
  have hfz2 : (w.setCell ⟨g, j, none⟩ (.int .i64 n)).frozen? ⟨f, 0, none⟩ = false := by simpa using hfz
  have HGF := Lib.hid hgf
  clear hn ho c hgf
  cases b
  · go_enter Tryz.func79, Tryz.ntmps79
    go_wp2_with fail
    refine C.out.mono ?_
    rintro e w' ⟨rfl, hw'⟩
    replace hw' := hw'.symm
    subst hw'
    go_wp2
    go_end0
    exact ⟨rfl, rfl⟩
  · go_enter Tryz.func79, Tryz.ntmps79
    go_wp2_with fail
    refine C.out.mono ?_
    rintro e w' ⟨rfl, hw'⟩
    replace hw' := hw'.symm
    subst hw'
    go_wp2
    go_end0
    exact ⟨rfl, rfl⟩
end Go.Proofs.YtkbcklaloblmeaaGreatDoor
