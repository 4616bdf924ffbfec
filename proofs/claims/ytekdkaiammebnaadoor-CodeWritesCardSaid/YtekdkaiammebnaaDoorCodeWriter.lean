/-
  Package code's Writer: what it holds, and what each of its calls writes.
-/
import Derived.Test.YtekdkaiammebnaaDoorBytes2
import Derived.Test.YtekdkaiammebnaaDoorCodeMath
namespace Go.Proofs.YtekdkaiammebnaaDoor
open Go.RowKit CodeMath

/-- The Writer in block p has written d; F: the blocks that it uses. -/
def IsW (F : Nat → Prop) (p : Nat) (d : List UInt8) (w : World) : Prop :=
  F p ∧ (∀ k, F k → k < w.heap.size) ∧ ∃ v, w.heap[p]? = some (.cells #[v] 60 (0, 0)) ∧ OwnBytes w v d ∧ ∀ g, v.ownBlock = some g → F g
theorem IsW.spares {F G : Nat → Prop} {p : Nat} {d : List UInt8} {w w' : World} (h : IsW F p d w) (hs : Spares G w w') (hn : ∀ k, F k → ¬ G k) : IsW F p d w' := by
  obtain ⟨h1, h2, v, h3, h4, h5⟩ := h
  exact ⟨h1, fun k hk => Nat.lt_of_lt_of_le (h2 k hk) hs.size, v, hs.heap h3 (hn _ h1), h4.spares hs (fun g hg => hn g (h5 g hg)), h5⟩
theorem IsW.alloc {F : Nat → Prop} {p : Nat} {d : List UInt8} {w : World} (h : IsW F p d w) (o : Obj) : IsW F p d (w.alloc o) :=
  h.spares (G := nowhere) ((Spares.refl _ _).alloc o) (fun _ _ h => h)
def Moved (F : Nat → Prop) (w : World) (F' : Nat → Prop) (w' : World) : Prop := Spares F w w' ∧ ∀ k, F' k → F k ∨ w.heap.size ≤ k
theorem Moved.refl (F : Nat → Prop) (w : World) : Moved F w F w := ⟨Spares.refl _ _, fun _ h => .inl h⟩
theorem Moved.trans {F F' F'' : Nat → Prop} {w w' w'' : World} (h : Moved F w F' w') (k : Moved F' w' F'' w'') : Moved F w F'' w'' :=
  ⟨h.1.trans' k.1 h.2, fun b hb => (k.2 b hb).elim (h.2 b) (fun hge => .inr (Nat.le_trans h.1.size hge))⟩
theorem Moved.alloc {F F' : Nat → Prop} {w w' : World} (h : Moved F w F' w') (o : Obj) : Moved F w F' (w'.alloc o) := ⟨h.1.alloc o, h.2⟩

theorem heap_set {w : World} {g : Nat} {t : TypeId} {cs : Array Value} (h : w.heap[g]? = some (.cells cs t (0, 0))) (i : Nat) (u : Value) : (w.setCell ⟨g, i, none⟩ u).heap[g]? = some (.cells (cs.setIfInBounds i u) t (0, 0)) := by
  simp [World.setCell, Array.getElem?_modify, h]
/-- The bytes of the row are appended to, and the slice is stored where it was. -/
theorem IsW.put {F : Nat → Prop} {p : Nat} {d d' : List UInt8} {w w1 : World} {v v' : Value} (h1 : F p) (h2 : ∀ k, F k → k < w.heap.size) (h3 : w.heap[p]? = some (.cells #[v] 60 (0, 0))) (h4 : OwnBytes w v d) (h5 : ∀ g, v.ownBlock = some g → F g)
    (ho : OwnBytes w1 v' d') (hg : w.grownBy w1 v.ownBlock) (hf : ∀ g, v'.ownBlock = some g → v.ownBlock = some g ∨ w.heap.size ≤ g) :
    w1.heap[p]? = some (.cells #[v] 60 (0, 0)) ∧ ∃ F', IsW F' p d' (w1.setCell ⟨p, 0, none⟩ v') ∧ Moved F w F' (w1.setCell ⟨p, 0, none⟩ v') := by
  have hp := h2 p h1
  have hvp : v.ownBlock ≠ some p := by
    intro e
    obtain ⟨cs, hcs⟩ := h4.kind p e
    rw [h3] at hcs
    injection hcs with hcs
    injection hcs with _ hcs _
    exact absurd hcs (by decide)
  have hw1 : w1.heap[p]? = some (.cells #[v] 60 (0, 0)) := by rw [hg.block p hp (fun e => hvp e.symm)]; exact h3
  have hvp' : ∀ g, v'.ownBlock = some g → g ≠ p := by
    intro g hgv e
    obtain ⟨cs, hcs⟩ := ho.kind g hgv
    rw [e, hw1] at hcs
    injection hcs with hcs
    injection hcs with _ hcs _
    exact absurd hcs (by decide)
  have hs1 : Spares F w w1 := (Spares.refl F w).grown hg (fun k hk => .inl (h5 k hk))
  have hsp : Spares (fun b => b = p) w1 (w1.setCell ⟨p, 0, none⟩ v') := Spares.setCell (F := fun b => b = p) (Spares.refl _ w1) (p := ⟨p, 0, none⟩) (.inl rfl) v'
  refine ⟨hw1, fun k => F k ∨ v'.ownBlock = some k, ⟨.inl h1, ?_, v', ?_, ho.spares hsp (fun g hg e => hvp' g hg e), fun g hg => .inr hg⟩, hs1.trans' hsp (fun b hb => by subst hb; exact .inl h1), ?_⟩
  · rintro k (hk | hk)
    · exact Nat.lt_of_lt_of_le (h2 k hk) (Nat.le_trans hs1.size hsp.size)
    · exact Nat.lt_of_lt_of_le (ho.lt k hk) hsp.size
  · exact heap_set hw1 0 v'
  · rintro k (hk | hk)
    · exact .inl hk
    · exact (hf k hk).elim (fun e => .inl (h5 k e)) .inr

def WPost (F : Nat → Prop) (p : Nat) (d : List UInt8) (w : World) (e : Ending) (w' : World) : Prop := e = .returned (.tuple #[]) ∧ ∃ F', IsW F' p d w' ∧ Moved F w F' w'

theorem low_byte (m : Nat) : Go.bits .or .u8 ((m : Int) % 256) 128 = ((UInt8.ofNat (m % 128 + 128)).toNat : Int) := by
  rw [show ((m : Int) % 256) = ((m % 256 : Nat) : Int) by omega, show (128 : Int) = ((128 : Nat) : Int) from rfl, u8_or_nat _ _ (by omega) (by omega)]
  congr 1
  have e : (UInt8.ofNat (m % 128 + 128)).toNat = m % 128 + 128 := by rw [UInt8.toNat_ofNat']; omega
  rw [e]
  have h128 : ∀ r : Fin 256, r.val ||| 128 = r.val % 128 + 128 := by decide +kernel
  have := h128 ⟨m % 256, Nat.mod_lt _ (by omega)⟩
  simp only at this
  rw [this]
  omega
theorem bytesAt_new (w : World) (x : UInt8) : BytesAt (w.alloc (.cells #[.int .u8 (x.toNat : Int)] 5)) (some ⟨w.heap.size, 0, none⟩) [x] := by
  intro k hk
  have : k = 0 := by simpa using hk
  subst this
  exact ⟨_, _, rfl, (Lib.cell_of_heap (heap_alloc_new w _) 0).trans rfl⟩

set_option maxRecDepth 100000 in
set_option maxHeartbeats 400000 in
theorem wNum_any (F : Nat → Prop) (p : Nat) (d : List UInt8) (n : Nat) (w : World) (h : IsW F p d w) (hn : U64 n) (hd : d.length ≤ 100000000000000) :
    Calls Tryd.prog 11 #[.pointer (some ⟨p, 0, none⟩), .int .u64 n] w (WPost F p (d ++ numF n) w) := by
  have H := Lib.hid h
  have HN := Lib.hid hn
  clear h hn
  go_enter Tryd.func11, Tryd.ntmps11
  go_wp2
  go_loopw [1] (fun i wr => ∃ (m f : Nat) (d' : List UInt8) (F' : Nat → Prop), i = .int .u64 m ∧ Hid (Fit m f ∧ f ≤ 9 ∧ d ++ numF n = d' ++ numG f m) ∧ d'.length + f ≤ d.length + 9 ∧ Hid (IsW F' p d' wr) ∧ Hid (Moved F w F' wr)) (fun i _ => (intOf i).toNat)
  case atStart => exact ⟨n, 9, d, F, rfl, Lib.hid ⟨fit_start HN.out, by omega, rfl⟩, by omega, H, Lib.hid (Moved.refl _ _)⟩
  case round =>
    obtain ⟨m, f, d', F', rfl, HM, hd', HW, HF⟩ := hrel
    obtain ⟨hF1, hF2, v, hv, hown, hF3⟩ := HW.out
    have HV := Lib.hid hv
    have HO := Lib.hid hown
    have H1 := Lib.hid hF1
    have H2 := Lib.hid hF2
    have H3 := Lib.hid hF3
    have hcell : wr.cell? ⟨p, 0, none⟩ = some v := by rw [Lib.cell_of_heap hv]; rfl
    clear hF1 hF2 hv hown hF3
    by_cases hge : 128 ≤ m
    · obtain ⟨f', rfl⟩ : ∃ f', f = f' + 1 := by
        cases f with
        | zero => have := fit_zero HM.out.1; omega
        | succ f => exact ⟨f, rfl⟩
      have hx := low_byte m
      obtain ⟨x, hxe⟩ : ∃ x, UInt8.ofNat (m % 128 + 128) = x := ⟨_, rfl⟩
      rw [hxe] at hx
      have HX := Lib.hid hxe
      clear hxe
      go_wp2_with (at_builtin; refine wpList_append_bytes rfl _ _ rfl _ d' rfl (HO.out.spares (F := nowhere) ((Spares.refl _ _).alloc _) (fun _ _ h => h)) (some ⟨wr.heap.size, 0, none⟩) 1 [x] rfl (bytesAt_new wr x) (fun e => by cases e) ?c1 ?_)
      case c1 => simp only [List.length_cons, List.length_nil]; omega
      intro ao c' w1 ho hg hf
      obtain ⟨hp1, F2, hW2, hM2⟩ := IsW.put (w := wr.alloc (.cells #[.int .u8 (x.toNat : Int)] 5)) H1.out (fun k hk => Nat.lt_of_lt_of_le (H2.out k hk) (by simp)) ((Below.heap_alloc wr _ p (H2.out p H1.out)).trans HV.out) (HO.out.spares (F := nowhere) ((Spares.refl _ _).alloc _) (fun _ _ h => h)) H3.out ho hg (fun g hgb => (hf g hgb).imp id (fun h => by simpa using h))
      have hfz : w1.frozen? ⟨p, 0, none⟩ = false := Lib.frozen_of_heap hp1 0
      have hc1 : w1.cell? ⟨p, 0, none⟩ = some v := by rw [Lib.cell_of_heap hp1]; rfl
      have HW2 := Lib.hid hW2
      have HM2 := Lib.hid hM2
      clear ho hg hf hW2 hM2 hp1
      go_wp2
      go_roundw
      case rel => exact ⟨m / 128, f', d' ++ [x], F2, by go_num, Lib.hid ⟨fit_next HM.out.1, by have := HM.out.2.1; omega, by rw [HM.out.2.2, numG_next hge, ← HX.out]; simp⟩, by simp; omega, HW2, Lib.hid (HF.out.trans (((Moved.refl _ _).alloc _).trans HM2.out))⟩
      case measure => simp [intOf]; omega
    · have HX := Lib.hid (numG_small (f := f) (show m < 128 by omega))
      obtain ⟨x, rfl⟩ : ∃ x : UInt8, m = x.toNat := ⟨UInt8.ofNat m, by rw [UInt8.toNat_ofNat']; omega⟩
      have hx : x.toNat ≤ 127 := by omega
      clear hge
      go_wp2_with (at_builtin; refine wpList_append_bytes rfl _ _ rfl _ d' rfl (HO.out.spares (F := nowhere) ((Spares.refl _ _).alloc _) (fun _ _ h => h)) (some ⟨wr.heap.size, 0, none⟩) 1 [x] rfl (bytesAt_new wr x) (fun e => by cases e) ?c1 ?_)
      case c1 => simp only [List.length_cons, List.length_nil]; omega
      intro ao c' w1 ho hg hf
      obtain ⟨hp1, F2, hW2, hM2⟩ := IsW.put (w := wr.alloc (.cells #[.int .u8 (x.toNat : Int)] 5)) H1.out (fun k hk => Nat.lt_of_lt_of_le (H2.out k hk) (by simp)) ((Below.heap_alloc wr _ p (H2.out p H1.out)).trans HV.out) (HO.out.spares (F := nowhere) ((Spares.refl _ _).alloc _) (fun _ _ h => h)) H3.out ho hg (fun g hgb => (hf g hgb).imp id (fun h => by simpa using h))
      have hfz : w1.frozen? ⟨p, 0, none⟩ = false := Lib.frozen_of_heap hp1 0
      have hc1 : w1.cell? ⟨p, 0, none⟩ = some v := by rw [Lib.cell_of_heap hp1]; rfl
      have HE : Hid (d ++ numF n = d' ++ [x]) := Lib.hid (by rw [HM.out.2.2, HX.out, UInt8.ofNat_toNat])
      have HW2 := Lib.hid hW2
      have HM2 := Lib.hid hM2
      clear ho hg hf hW2 hM2 hp1
      go_wp2
      go_end0
      exact ⟨rfl, F2, by rw [HE.out]; exact HW2.out, HF.out.trans (((Moved.refl _ _).alloc _).trans HM2.out)⟩
end Go.Proofs.YtekdkaiammebnaaDoor
