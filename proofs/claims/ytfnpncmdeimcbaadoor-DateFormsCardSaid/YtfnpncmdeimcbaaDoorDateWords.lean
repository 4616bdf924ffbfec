/-
  words: the names at hand, cut the first time.
-/
import Derived.Test.YtfnpncmdeimcbaaDoorDateOnce
namespace Go.Proofs.YtfnpncmdeimcbaaDoor
open Go.RowKit DateMath

def NamesAt (d l : Int) (z : Value) (w : World) (p : Nat) : Prop := ∃ gd gm, CalIs w p d l z (.slice (some ⟨gd, 0, none⟩) 7 7) (.slice (some ⟨gm, 0, none⟩) 12 12) ∧ w.heap[gd]? = some (.cells dayA 9 (0, 0)) ∧ w.heap[gm]? = some (.cells monA 9 (0, 0)) ∧ gd ≠ p ∧ gm ≠ p
theorem NamesAt.set0 {d l : Int} {z : Value} {w : World} {p : Nat} (h : NamesAt d l z w p) (d' : Int) : NamesAt d' l z (w.setCell ⟨p, 0, none⟩ (.int .u32 d')) p := by
  obtain ⟨gd, gm, h1, h2, h3, h4, h5⟩ := h
  have hs : Spares (fun b => b = p) w (w.setCell ⟨p, 0, none⟩ (.int .u32 d')) := spares_setD (Spares.refl _ w) 0 _
  exact ⟨gd, gm, h1.set0 _, hs.heap h2 h4, hs.heap h3 h5, h4, h5⟩
theorem NamesAt.set1 {d l : Int} {z : Value} {w : World} {p : Nat} (h : NamesAt d l z w p) (l' : Int) : NamesAt d l' z (w.setCell ⟨p, 1, none⟩ (.int .i32 l')) p := by
  obtain ⟨gd, gm, h1, h2, h3, h4, h5⟩ := h
  have hs : Spares (fun b => b = p) w (w.setCell ⟨p, 1, none⟩ (.int .i32 l')) := spares_setD (Spares.refl _ w) 1 _
  exact ⟨gd, gm, h1.set1 _, hs.heap h2 h4, hs.heap h3 h5, h4, h5⟩
theorem NamesAt.spares {F : Nat → Prop} {d l : Int} {z : Value} {w w' : World} {p : Nat} (h : NamesAt d l z w p) (hs : Spares F w w') (hF : ∀ b, ¬ F b) : NamesAt d l z w' p := by
  obtain ⟨gd, gm, h1, h2, h3, h4, h5⟩ := h
  exact ⟨gd, gm, h1.spares hs (hF _), hs.heap h2 (hF _), hs.heap h3 (hF _), h4, h5⟩
set_option maxRecDepth 100000 in
set_option maxHeartbeats 1600000 in
theorem slowD_any (p : Nat) (pl : Addr) (z : Value) (w : World) (hp : w.cell? pl = some (.pointer (some ⟨p, 0, none⟩))) (hpl : pl.block < w.heap.size) (hne : pl.block ≠ p) (hg : CalIs w p 0 0 z (.slice none 0 0) (.slice none 0 0)) (ht : Tabs w p) :
    Calls Tryd.prog 51 #[.pointer (some ⟨p, 0, none⟩), .func (.func 43) #[] #[.pointer (some pl)]] w fun e w' => e = .returned (.tuple #[]) ∧ NamesAt 1 0 z w' p ∧ Spares (fun b => b = p) w w' := by
  have hg1 := hg.set1 1
  have c1 := hg.get.2.1
  have f1 := hg.free 1
  have hs1 : Spares (fun b => b = p) w (w.setCell ⟨p, 1, none⟩ (.int .i32 1)) := spares_setD (Spares.refl _ w) 1 _
  have hp1 : (w.setCell ⟨p, 1, none⟩ (.int .i32 1)).cell? pl = some (.pointer (some ⟨p, 0, none⟩)) := (hs1.cell hpl hne).trans hp
  have hl := run_call_load (P := Tryd.prog) Tryd.func55 (by kernel_rfl) (by kernel_rfl) (by kernel_rfl) .u32 (by kernel_rfl) (w := w.setCell ⟨p, 1, none⟩ (.int .i32 1)) (a := ⟨p, 0, none⟩) (x := 0) hg1.get.1
  have hnot : ∀ (x : Bool) (w : World), (Op.unary .not (.bool x)).run Tryd.prog w = .ok (.bool (!x)) w := fun _ _ => rfl
  have CW := Lib.hid (words1_any p pl 0 1 z _ hp1 (Nat.lt_of_lt_of_le hpl hs1.size) hne hg1 (ht.spares hs1))
  have HS1 := Lib.hid hs1
  clear hg hg1 hs1 hp hp1 ht hpl hne
  go_enter_defers Tryd.func51, Tryd.ntmps51
  go_wp2_with (first | (go_at_call 56; refine (lock_free ⟨p, 1, none⟩ _ c1 f1).mono ?_; rintro e w' ⟨rfl, rfl⟩) | (go_at_call 50; go_in) | (go_at_call 43; refine CW.out.mono ?_; rintro e w2 ⟨rfl, hg2, hs2⟩))
  have hN : NamesAt 0 1 z w2.drew p := NamesAt.spares hg2 ((Spares.refl nowhere w2).drew) (fun _ h => h)
  have hS : Spares (fun b => b = p) w w2.drew := (HS1.out.trans hs2).drew
  clear hg2 hs2
  have hN2 := hN.set0 1
  obtain ⟨gd, gm, hC, _⟩ := id hN
  obtain ⟨gd2, gm2, hC2, _⟩ := id hN2
  have q0 : w2.cell? ⟨p, 0, none⟩ = some (.int .u32 0) := hC.get.1
  have qf : w2.frozen? ⟨p, 0, none⟩ = false := hC.free 0
  refine leaves_cons (f := 58) (args := #[.pointer (some ⟨p, 0, none⟩), .bool true]) (by simp) (by simp [go_sem]) ?_
  refine (store_deferred ⟨p, 0, none⟩ (.int .u32 0) .returning _ q0 qf).mono ?_
  rintro e u' w'' ⟨rfl, rfl, rfl⟩
  have hS3 := spares_setD hS 0 (.int .u32 1)
  refine leaves_cons (f := 57) (args := #[.pointer (some ⟨p, 1, none⟩)]) (by simp [settle]) (by simp [go_sem]) ?_
  refine (unlock_deferred ⟨p, 1, none⟩ _ _ hC2.get.2.1 (hC2.free 1)).mono ?_
  rintro e u' w'' ⟨rfl, rfl, rfl⟩
  have hN4 := hN2.set1 0
  have hS4 := spares_setD hS3 1 (.int .i32 0)
  simp [Leaves, settle, results, Tryd.results51]
  exact ⟨hN4, hS4⟩
set_option maxRecDepth 100000 in
set_option maxHeartbeats 1600000 in
theorem doD_first (p : Nat) (pl : Addr) (z : Value) (w : World) (hp : w.cell? pl = some (.pointer (some ⟨p, 0, none⟩))) (hpl : pl.block < w.heap.size) (hne : pl.block ≠ p) (hg : CalIs w p 0 0 z (.slice none 0 0) (.slice none 0 0)) (ht : Tabs w p) :
    Calls Tryd.prog 42 #[.pointer (some ⟨p, 0, none⟩), .func (.func 43) #[] #[.pointer (some pl)]] w fun e w' => e = .returned (.tuple #[]) ∧ NamesAt 1 0 z w' p ∧ Spares (fun b => b = p) w w' := by
  have hl := run_call_load (P := Tryd.prog) Tryd.func55 (by kernel_rfl) (by kernel_rfl) (by kernel_rfl) .u32 (by kernel_rfl) hg.get.1
  have hnot : ∀ (x : Bool) (w : World), (Op.unary .not (.bool x)).run Tryd.prog w = .ok (.bool (!x)) w := fun _ _ => rfl
  have HC := Lib.hid (slowD_any p pl z w hp hpl hne hg ht)
  clear hp hg hpl hne ht
  go_enter Tryd.func42, Tryd.ntmps42
  go_wp2_with (first | (go_at_call 51; refine HC.out.mono ?_; rintro e w' ⟨rfl, hg2, hs2⟩) | (go_at_call 50; go_in))
  go_end0
  exact ⟨rfl, hg2, hs2⟩
theorem doD_done (a : Addr) (d : Int) (hd : ¬ d = 0) (fv : Value) (w : World) (h0 : w.cell? a = some (.int .u32 d)) :
    Calls Tryd.prog 42 #[.pointer (some a), fv] w fun e w' => e = .returned (.tuple #[]) ∧ w' = w := by
  have hl := run_call_load (P := Tryd.prog) Tryd.func55 (by kernel_rfl) (by kernel_rfl) (by kernel_rfl) .u32 (by kernel_rfl) h0
  have hnot : ∀ (x : Bool) (w : World), (Op.unary .not (.bool x)).run Tryd.prog w = .ok (.bool (!x)) w := fun _ _ => rfl
  have hd' : (d != 0) = true := by simp [hd]
  go_enter Tryd.func42, Tryd.ntmps42
  go_wp2
  go_end0
  exact ⟨rfl, rfl⟩
/-- What words leaves. -/
def WordsPost (p : Nat) (w : World) (e : Ending) (w' : World) : Prop := e = .returned (.pointer (some ⟨p, 3, none⟩)) ∧ CalAt w' p ∧ Spares (fun b => b = p) w w'
theorem cal_names {w : World} {p : Nat} {z : Value} (h : NamesAt 1 0 z w p) : CalAt w p := by
  obtain ⟨gd, gm, h⟩ := h
  exact ⟨z, gd, gm, h⟩
set_option maxRecDepth 100000 in
set_option maxHeartbeats 1600000 in
theorem wordsD_first (p : Nat) (w : World) (hg : CalNew w p) (ht : Tabs w p) : Calls Tryd.prog 30 #[.pointer (some ⟨p, 0, none⟩)] w (WordsPost p w) := by
  have hp : p < w.heap.size := (Array.getElem?_eq_some_iff.1 hg).1
  have hmf : ∀ (fn : Fn) (first cap : Array Value) (w : World), (Instr.makeFunc fn first cap).run Tryd.prog w = .ok (.func fn first cap) w := fun _ _ _ _ => rfl
  have hs0 : Spares nowhere w (w.alloc (.cells #[.pointer (some ⟨p, 0, none⟩)] 68)) := (Spares.refl _ _).alloc _
  have hb0 := heap_alloc_new w (.cells #[.pointer (some ⟨p, 0, none⟩)] 68)
  have HC := Lib.hid (doD_first p ⟨w.heap.size, 0, none⟩ (.int .u32 0) (w.alloc (.cells #[.pointer (some ⟨p, 0, none⟩)] 68)) ((Lib.cell_of_heap hb0 0).trans rfl) (by simp) (by show w.heap.size ≠ p; omega) (CalIs.spares hg hs0 (fun h => h)) (ht.spares (hs0.mono (fun _ h => by cases h))))
  have HB := Lib.hid hb0
  have HS := Lib.hid hs0
  clear hg hs0 hb0 ht
  unfold WordsPost
  go_enter Tryd.func30, Tryd.ntmps30
  go_wp2_with fail
  refine HC.out.mono ?_
  rintro e w2 ⟨rfl, hg2, hs2⟩
  have hb2 := hs2.heap HB.out (by omega)
  have c2 : w2.cell? ⟨w.heap.size, 0, none⟩ = some (.pointer (some ⟨p, 0, none⟩)) := by rw [Lib.cell_of_heap hb2]; rfl
  have HG := Lib.hid (cal_names hg2)
  have HS2 := Lib.hid (Spares.trans' (F := fun b => b = p) (HS.out.mono (fun _ h => by cases h)) hs2 (fun b hb => .inl hb))
  clear hg2 hs2 hb2
  go_wp2
  go_ret
  exact ⟨rfl, HG.out, HS2.out⟩
set_option maxRecDepth 100000 in
theorem wordsD_again (p : Nat) (w : World) (hg : CalAt w p) : Calls Tryd.prog 30 #[.pointer (some ⟨p, 0, none⟩)] w (WordsPost p w) := by
  have hp : p < w.heap.size := by obtain ⟨z, gd, gm, h, _⟩ := hg; exact (Array.getElem?_eq_some_iff.1 h).1
  have hmf : ∀ (fn : Fn) (first cap : Array Value) (w : World), (Instr.makeFunc fn first cap).run Tryd.prog w = .ok (.func fn first cap) w := fun _ _ _ _ => rfl
  have hs0 : Spares nowhere w (w.alloc (.cells #[.pointer (some ⟨p, 0, none⟩)] 68)) := (Spares.refl _ _).alloc _
  have hg1 := hg.below hs0.below0
  have h0 : (w.alloc (.cells #[.pointer (some ⟨p, 0, none⟩)] 68)).cell? ⟨p, 0, none⟩ = some (.int .u32 1) := by obtain ⟨z, gd, gm, h, _⟩ := hg1; exact h.get.1
  have HC := Lib.hid (fun fv => doD_done ⟨p, 0, none⟩ 1 (by decide) fv (w.alloc (.cells #[.pointer (some ⟨p, 0, none⟩)] 68)) h0)
  have HG := Lib.hid hg1
  have HS := Lib.hid hs0
  clear hg hs0 hg1 h0
  unfold WordsPost
  go_enter Tryd.func30, Tryd.ntmps30
  go_wp2_with fail
  refine (HC.out _).mono ?_
  rintro e w2 ⟨rfl, rfl⟩
  go_wp2
  go_ret
  exact ⟨rfl, HG.out, HS.out.mono (fun _ h => by cases h)⟩
theorem wordsD_any (p : Nat) (w : World) (hg : CalNew w p ∨ CalAt w p) (ht : Tabs w p) : Calls Tryd.prog 30 #[.pointer (some ⟨p, 0, none⟩)] w (WordsPost p w) := by
  rcases hg with h | h
  · exact wordsD_first p w h ht
  · exact wordsD_again p w h
end Go.Proofs.YtfnpncmdeimcbaaDoor
