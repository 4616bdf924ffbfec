/-
  big.Append, and frag's writer: what it holds, and what each of its calls writes.
-/
import Derived.Test.YtimpnnhadjfijaaDoorFragMath
namespace Go.Proofs.YtimpnnhadjfijaaDoor
open Go.RowKit

def Grows (v : Value) (d : List UInt8) (w : World) (e : Ending) (w' : World) : Prop :=
  ∃ v', e = .returned v' ∧ OwnBytes w' v' d ∧ Spares (fun b => v.ownBlock = some b) w w' ∧ ∀ g, v'.ownBlock = some g → v.ownBlock = some g ∨ w.heap.size ≤ g
theorem byteOne_at (w : World) (x : UInt8) : BytesAt (w.alloc (.cells #[.int .u8 (x.toNat : Int)] 5)) (some ⟨w.heap.size, 0, none⟩) [x] := by
  intro k hk
  have : k = 0 := by simpa using hk
  subst this
  exact ⟨_, _, rfl, (Lib.cell_of_heap (heap_alloc_new w _) 0).trans rfl⟩

set_option maxRecDepth 100000 in
set_option maxHeartbeats 1000000 in
theorem bigAppend_any (v : Value) (d : List UInt8) (M k : Nat) (w : World) (hr : OwnBytes w v d) (hk : k ≤ 8) (hd : d.length + k ≤ 140737488355328) :
    Calls Tryd.prog 38 #[v, .int .u64 M, .int .i64 k] w (Grows v (d ++ beN k M) w) := by
  have HD := Lib.hid hd
  have HR0 : Hid (OwnBytes w v (d ++ (beN k M).take 0)) := Lib.hid (by rw [List.take_zero, List.append_nil]; exact hr)
  clear hr hd
  go_enter Tryd.func38, Tryd.ntmps38
  go_wp2
  go_loopw [0, 7] (fun u i wr => ∃ j : Nat, j ≤ k ∧ i = .int .i64 ((k : Int) - 1 - (j : Int)) ∧ Hid (OwnBytes wr u (d ++ (beN k M).take j)) ∧ Hid (Spares (fun b => v.ownBlock = some b) w wr) ∧ Hid (∀ g, u.ownBlock = some g → v.ownBlock = some g ∨ w.heap.size ≤ g)) (fun _ i _ => (intOf i + 1).toNat)
  case atStart => exact ⟨0, by omega, by simp, HR0, Lib.hid (Spares.refl _ _), Lib.hid (fun g h => .inl h)⟩
  clear HR0
  case round =>
    obtain ⟨j, hj, rfl, HR1, HS1, HG1⟩ := hrel
    by_cases hlt : j < k
    · obtain ⟨i, hi⟩ : ∃ i : Nat, k - 1 - j = i := ⟨_, rfl⟩
      have hii : (k : Int) - 1 - (j : Int) = (i : Int) := by omega
      rw [hii]
      obtain ⟨s, hs⟩ : ∃ s : Nat, 8 * i = s := ⟨_, rfl⟩
      have hsi : (8 : Int) * (i : Int) = (s : Int) := by omega
      have hs0 : s < 64 := by omega
      obtain ⟨x, hx⟩ : ∃ x, UInt8.ofNat (M / 256 ^ i) = x := ⟨_, rfl⟩
      have hbt := byte_shift M i s hs
      rw [hx] at hbt
      have hbw : IntKind.u8.wrap ((M : Int) / 2 ^ s) = (x.toNat : Int) := by rw [← hbt, IntKind.wrap_u8]
      obtain ⟨Y, hY⟩ : ∃ Y, d ++ (beN k M).take j = Y := ⟨_, rfl⟩
      rw [hY] at HR1
      have hYl : Y.length + 1 ≤ 140737488355328 := by rw [← hY, List.length_append, List.length_take, beN_len]; have := HD.out; omega
      have HNXT : Hid (d ++ (beN k M).take (j + 1) = Y ++ [x]) := Lib.hid (by rw [beN_take k M j i hlt hi, ← List.append_assoc, hY, hx])
      have HYL := Lib.hid hYl
      have hj2 : (i : Int) - 1 = (k : Int) - 1 - ((j + 1 : Nat) : Int) := by omega
      have HJ2 := Lib.hid hj2
      clear hx hY hYl hi hii hs hj2
      go_wp2_with ((with_reducible show wpList _ _ _ (⟨some 21, _, _, _, _, _⟩ :: _) _ _); refine wpList_append_bytes rfl _ _ rfl _ Y rfl (HR1.out.spares (F := nowhere) ((Spares.refl _ _).alloc _) (fun _ _ h => h)) (some ⟨wr.heap.size, 0, none⟩) 1 [x] rfl (byteOne_at wr x) (fun e => by cases e) HYL.out ?_; intro ao c' w9 ho hg hf; have HO9 := Lib.hid ho; have HS9 := Lib.hid (((Spares.refl _ wr).alloc (.cells #[.int .u8 (x.toNat : Int)] 5)).grown hg (fun g h => .inl h)); have HF9 := Lib.hid hf; clear ho hg hf)
      go_roundw
      case rel =>
        refine ⟨j + 1, by omega, by rw [HJ2.out], by rw [HNXT.out]; exact HO9, Lib.hid (HS1.out.trans' HS9.out HG1.out), Lib.hid (fun g h => ?_)⟩
        rcases HF9.out g h with h | h
        · exact HG1.out g h
        · exact .inr (Nat.le_trans HS1.out.size (Nat.le_trans (by simp) h))
      case measure => simp [intOf]
    · obtain rfl : j = k := by omega
      have e1 : (j : Int) - 1 - (j : Int) = -1 := by omega
      rw [e1]
      have HRF : Hid (OwnBytes wr u0 (d ++ beN j M)) := Lib.hid (by
        have := HR1.out
        rw [List.take_of_length_le (by rw [beN_len]; omega)] at this
        exact this)
      go_wp2
      go_ret
      exact ⟨_, rfl, HRF.out, HS1.out, HG1.out⟩

/-- frag's writer in block p has written d; F: the blocks that it uses. -/
def IsFW (F : Nat → Prop) (p : Nat) (d : List UInt8) (w : World) : Prop :=
  F p ∧ (∀ k, F k → k < w.heap.size) ∧ ∃ v, w.heap[p]? = some (.cells #[v] 56 (0, 0)) ∧ OwnBytes w v d ∧ ∀ g, v.ownBlock = some g → F g
theorem IsFW.spares {F G : Nat → Prop} {p : Nat} {d : List UInt8} {w w' : World} (h : IsFW F p d w) (hs : Spares G w w') (hn : ∀ k, F k → ¬ G k) : IsFW F p d w' := by
  obtain ⟨h1, h2, v, h3, h4, h5⟩ := h
  exact ⟨h1, fun k hk => Nat.lt_of_lt_of_le (h2 k hk) hs.size, v, hs.heap h3 (hn _ h1), h4.spares hs (fun g hg => hn g (h5 g hg)), h5⟩
theorem IsFW.alloc {F : Nat → Prop} {p : Nat} {d : List UInt8} {w : World} (h : IsFW F p d w) (o : Obj) : IsFW F p d (w.alloc o) :=
  h.spares (G := nowhere) ((Spares.refl _ _).alloc o) (fun _ _ h => h)
def MovedF (F : Nat → Prop) (w : World) (F' : Nat → Prop) (w' : World) : Prop := Spares F w w' ∧ ∀ k, F' k → F k ∨ w.heap.size ≤ k
theorem MovedF.refl (F : Nat → Prop) (w : World) : MovedF F w F w := ⟨Spares.refl _ _, fun _ h => .inl h⟩
theorem MovedF.trans {F F' F'' : Nat → Prop} {w w' w'' : World} (h : MovedF F w F' w') (k : MovedF F' w' F'' w'') : MovedF F w F'' w'' :=
  ⟨h.1.trans' k.1 h.2, fun b hb => (k.2 b hb).elim (h.2 b) (fun hge => .inr (Nat.le_trans h.1.size hge))⟩
theorem MovedF.spares {F F' : Nat → Prop} {w w' w'' : World} (h : MovedF F w F' w') (k : Spares nowhere w' w'') : MovedF F w F' w'' := ⟨h.1.trans' k (fun _ h => by cases h), h.2⟩
theorem MovedF.alloc {F F' : Nat → Prop} {w w' : World} (h : MovedF F w F' w') (o : Obj) : MovedF F w F' (w'.alloc o) := ⟨h.1.alloc o, h.2⟩

/-- The bytes of the row are appended to, and the slice is stored where it was. -/
theorem IsFW.put {F : Nat → Prop} {p : Nat} {d d' : List UInt8} {w w1 : World} {v v' : Value} (h1 : F p) (h2 : ∀ k, F k → k < w.heap.size) (h3 : w.heap[p]? = some (.cells #[v] 56 (0, 0))) (h4 : OwnBytes w v d) (h5 : ∀ g, v.ownBlock = some g → F g)
    (ho : OwnBytes w1 v' d') (hg : Spares (fun b => v.ownBlock = some b) w w1) (hf : ∀ g, v'.ownBlock = some g → v.ownBlock = some g ∨ w.heap.size ≤ g) :
    w1.heap[p]? = some (.cells #[v] 56 (0, 0)) ∧ ∃ F', IsFW F' p d' (w1.setCell ⟨p, 0, none⟩ v') ∧ MovedF F w F' (w1.setCell ⟨p, 0, none⟩ v') := by
  have hp := h2 p h1
  have hvp : v.ownBlock ≠ some p := by
    intro e
    obtain ⟨cs, hcs⟩ := h4.kind p e
    rw [h3] at hcs
    injection hcs with hcs
    injection hcs with _ hcs _
    exact absurd hcs (by decide)
  have hw1 : w1.heap[p]? = some (.cells #[v] 56 (0, 0)) := by rw [hg.block p hp hvp]; exact h3
  have hvp' : ∀ g, v'.ownBlock = some g → g ≠ p := by
    intro g hgv e
    obtain ⟨cs, hcs⟩ := ho.kind g hgv
    rw [e, hw1] at hcs
    injection hcs with hcs
    injection hcs with _ hcs _
    exact absurd hcs (by decide)
  have hs1 : Spares F w w1 := hg.mono (fun k hk => .inl (h5 k hk))
  have hsp : Spares (fun b => b = p) w1 (w1.setCell ⟨p, 0, none⟩ v') := Spares.setCell (F := fun b => b = p) (Spares.refl _ w1) (p := ⟨p, 0, none⟩) (.inl rfl) v'
  refine ⟨hw1, fun k => F k ∨ v'.ownBlock = some k, ⟨.inl h1, ?_, v', ?_, ho.spares hsp (fun g hg e => hvp' g hg e), fun g hg => .inr hg⟩, hs1.trans' hsp (fun b hb => by subst hb; exact .inl h1), ?_⟩
  · rintro k (hk | hk)
    · exact Nat.lt_of_lt_of_le (h2 k hk) (Nat.le_trans hs1.size hsp.size)
    · exact Nat.lt_of_lt_of_le (ho.lt k hk) hsp.size
  · exact heap_set hw1 0 v'
  · rintro k (hk | hk)
    · exact .inl hk
    · exact (hf k hk).elim (fun e => .inl (h5 k e)) .inr

def FWPost (F : Nat → Prop) (p : Nat) (d : List UInt8) (w : World) (e : Ending) (w' : World) : Prop := e = .returned (.tuple #[]) ∧ ∃ F', IsFW F' p d w' ∧ MovedF F w F' w'

set_option maxHeartbeats 1000000 in
theorem fwText_any (F : Nat → Prop) (p : Nat) (d : List UInt8) (a : Option Addr) (c n : Nat) (l : List UInt8) (w : World) (h : IsFW F p d w) (hat : BytesAt w a l) (hn : n = l.length) (hnil : a = none → c = 0) (hd : d.length + l.length ≤ 140737488355328) :
    Calls Tryd.prog 24 #[.pointer (some ⟨p, 0, none⟩), .slice a n c] w (FWPost F p (d ++ l) w) := by
  subst hn
  obtain ⟨h1, h2, v, h3, h4, h5⟩ := h
  have hcell : w.cell? ⟨p, 0, none⟩ = some v := by rw [Lib.cell_of_heap h3]; rfl
  have H1 := Lib.hid h1
  have H2 := Lib.hid h2
  have H3 := Lib.hid h3
  have H4 := Lib.hid h4
  have H5 := Lib.hid h5
  have HA := Lib.hid hat
  have HN := Lib.hid hnil
  have HD := Lib.hid hd
  clear h1 h2 h3 h4 h5 hat hnil hd
  go_enter Tryd.func24, Tryd.ntmps24
  go_wp2_with ((with_reducible show wpList _ _ _ (⟨some 10, _, _, _, _, _⟩ :: _) _ _); refine wpList_append_bytes rfl _ _ rfl v d rfl H4.out a c l rfl HA.out HN.out HD.out ?_; intro ao c' w9 ho hg hf; obtain ⟨hp1, F2, hW2, hM2⟩ := IsFW.put H1.out H2.out H3.out H4.out H5.out ho ((Spares.refl _ w).grown hg (fun g h => .inl h)) hf; have hfz : w9.frozen? ⟨p, 0, none⟩ = false := Lib.frozen_of_heap hp1 0; have hc1 : w9.cell? ⟨p, 0, none⟩ = some v := (by rw [Lib.cell_of_heap hp1]; rfl); have HW2 := Lib.hid hW2; have HM2 := Lib.hid hM2; clear ho hg hf hW2 hM2 hp1 hcell)
  go_end0
  exact ⟨rfl, F2, HW2.out, HM2.out⟩

set_option maxHeartbeats 1000000 in
theorem fwNum_any (F : Nat → Prop) (p : Nat) (d : List UInt8) (M k : Nat) (w : World) (h : IsFW F p d w) (hk : k ≤ 8) (hd : d.length + k ≤ 140737488355328) :
    Calls Tryd.prog 25 #[.pointer (some ⟨p, 0, none⟩), .int .u64 M, .int .i64 k] w (FWPost F p (d ++ beN k M) w) := by
  obtain ⟨h1, h2, v, h3, h4, h5⟩ := h
  have hcell : w.cell? ⟨p, 0, none⟩ = some v := by rw [Lib.cell_of_heap h3]; rfl
  have HC := Lib.hid (bigAppend_any v d M k w h4 hk hd)
  have H1 := Lib.hid h1
  have H2 := Lib.hid h2
  have H3 := Lib.hid h3
  have H4 := Lib.hid h4
  have H5 := Lib.hid h5
  clear h1 h2 h3 h4 h5 hd
  go_enter Tryd.func25, Tryd.ntmps25
  go_wp2_with fail
  refine HC.out.mono ?_
  rintro e w9 ⟨v', rfl, ho, hg, hf⟩
  obtain ⟨hp1, F2, hW2, hM2⟩ := IsFW.put H1.out H2.out H3.out H4.out H5.out ho hg hf
  have hfz : w9.frozen? ⟨p, 0, none⟩ = false := Lib.frozen_of_heap hp1 0
  have hc1 : w9.cell? ⟨p, 0, none⟩ = some v := by rw [Lib.cell_of_heap hp1]; rfl
  obtain ⟨N, hN⟩ : ∃ N, (d ++ beN k M).length = N := ⟨_, rfl⟩
  obtain ⟨ao, c', hv, _⟩ := ho.shape
  rw [hN] at hv
  subst hv
  clear hN
  have HW2 := Lib.hid hW2
  have HM2 := Lib.hid hM2
  clear ho hg hf hW2 hM2 hp1 hcell HC
  go_wp2
  go_end0
  exact ⟨rfl, F2, HW2.out, HM2.out⟩
end Go.Proofs.YtimpnnhadjfijaaDoor
