/-
  ending: the last block or two of a text, padded.
-/
import Derived.Test.YtimpnnhadjfijaaDoorShaTake
import Derived.Laws.CopyOwn
namespace Go.Proofs.YtimpnnhadjfijaaDoor
open Go.RowKit

def bytesV (l : List UInt8) : Array Value := (Lib.byteCells l).toArray
theorem bytesV_size (l : List UInt8) : (bytesV l).size = l.length := by simp [bytesV, Lib.byteCells]
theorem bytesV_get (l : List UInt8) (i : Nat) (h : i < l.length) : (bytesV l)[i]? = some (.int .u8 (l.getD i 0).toNat) := by
  simp [bytesV, Lib.byteCells, List.getD_eq_getElem?_getD, List.getElem?_eq_getElem h]
theorem bytesV_at {w : World} {g : Nat} {t : TypeId} {l : List UInt8} (h : w.heap[g]? = some (.cells (bytesV l) t (0, 0))) : BytesAt w (some ⟨g, 0, none⟩) l := by
  intro k hk
  refine ⟨g, 0, rfl, ?_⟩
  rw [Nat.zero_add, Lib.cell_of_heap h, bytesV_get l k hk, List.getD_eq_getElem?_getD, List.getElem?_eq_getElem hk]
  rfl
theorem bytesV_set (A B : List UInt8) (y x : UInt8) : (bytesV (A ++ y :: B)).setIfInBounds A.length (.int .u8 x.toNat) = bytesV (A ++ x :: B) := by
  simp [bytesV, Lib.byteCells]
theorem set4_bytes (A B : List UInt8) (y0 y1 y2 y3 : UInt8) (x : UInt32) : set4 (bytesV (A ++ y0 :: y1 :: y2 :: y3 :: B)) A.length x = bytesV (A ++ byW x 0 :: byW x 1 :: byW x 2 :: byW x 3 :: B) := by
  unfold set4 byCell
  rw [bytesV_set A]
  have h1 := bytesV_set (A ++ [byW x 0]) (y2 :: y3 :: B) y1 (byW x 1)
  have h2 := bytesV_set (A ++ [byW x 0, byW x 1]) (y3 :: B) y2 (byW x 2)
  have h3 := bytesV_set (A ++ [byW x 0, byW x 1, byW x 2]) B y3 (byW x 3)
  simp only [List.length_append, List.length_cons, List.length_nil, List.append_assoc, List.cons_append, List.nil_append, Nat.zero_add, Nat.reduceAdd] at h1 h2 h3
  rw [h1, h2, h3]
/-- The last block or two. -/
def endS (t : List UInt8) (size n : Nat) : List UInt8 := t ++ [128] ++ List.replicate (size - t.length - 9) 0 ++ lenB n
theorem lenB_words (n : Nat) (h : n * 8 < 18446744073709551616) : lenB n = [byW (UInt32.ofNat (n * 8 / 4294967296)) 0, byW (UInt32.ofNat (n * 8 / 4294967296)) 1, byW (UInt32.ofNat (n * 8 / 4294967296)) 2, byW (UInt32.ofNat (n * 8 / 4294967296)) 3, byW (UInt32.ofNat (n * 8)) 0, byW (UInt32.ofNat (n * 8)) 1, byW (UInt32.ofNat (n * 8)) 2, byW (UInt32.ofNat (n * 8)) 3] := by
  obtain ⟨m, hm⟩ : ∃ m, n * 8 = m := ⟨_, rfl⟩
  rw [hm] at h
  unfold lenB byW
  rw [hm, show List.range 8 = [0, 1, 2, 3, 4, 5, 6, 7] from rfl]
  simp only [List.map_cons, List.map_nil, u32_ofNat]
  simp only [← UInt8.toNat_inj, UInt8.toNat_ofNat', List.cons.injEq, and_true]
  refine ⟨?_, ?_, ?_, ?_, ?_, ?_, ?_, ?_⟩ <;> simp only [Nat.reduceSub, Nat.reducePow] <;> omega
set_option maxRecDepth 100000 in
theorem make_bytes (n : Nat) (hn : n ≤ 281474976710656) (w : World) : (Instr.makeSlice 27 (.int .i64 (n : Int)) (.int .i64 (n : Int))).run Tryd.prog w = .ok (.slice (some ⟨w.heap.size, 0, none⟩) n n) (w.alloc (.cells (bytesV (List.replicate n 0)) 5)) := by
  obtain ⟨i0, hi, hz0, hz1, hz2⟩ := info_parts byteInfo
  have h := run_make (P := Tryd.prog) w 27 5 i0 (.int .u8 0) Tryd.underlying27 hi hz0 .i64 .i64 (n : Int) (n : Int) (by omega) (by omega) (by rw [hz2]; omega) (by omega)
  rw [h]
  simp only [Int.toNat_natCast, hz1, Nat.mul_one]
  congr 3
  apply Array.ext'
  rw [show (Value.int IntKind.u8 0).cells = #[.int .u8 0] from rfl, toList_madeCells_one]
  simp [bytesV, Lib.byteCells]
theorem splice_bytes (t : List UInt8) (n : Nat) : splice (Lib.byteCells (List.replicate n 0)) 0 (Lib.byteCells t) = Lib.byteCells (t ++ List.replicate (n - t.length) 0) := by
  unfold splice
  rw [byteCells_app, byteCells_len]
  simp [Lib.byteCells]
/-- What the block is before its length is written. -/
theorem end_shape (t : List UInt8) (size : Nat) (h : t.length + 9 ≤ size) : ∃ z, t ++ List.replicate (size - t.length) (0 : UInt8) = t ++ 0 :: (List.replicate z 0 ++ [0, 0, 0, 0, 0, 0, 0, 0]) ∧ z = size - t.length - 9 := by
  refine ⟨size - t.length - 9, ?_, rfl⟩
  obtain ⟨z, hz⟩ : ∃ z, size - t.length - 9 = z := ⟨_, rfl⟩
  rw [hz, show size - t.length = 1 + (z + 8) by omega, ← List.replicate_append_replicate, ← List.replicate_append_replicate]
  rfl
theorem end_one {w2 : World} {q r zz S : Nat} {t : List UInt8} (hr : t.length = r) (hz : zz = S - r - 9) (hS : r + 9 ≤ S) (h : w2.heap[q]? = some (.cells (bytesV (t ++ 0 :: (List.replicate zz 0 ++ [0, 0, 0, 0, 0, 0, 0, 0]))) 5 (0, 0))) :
    ∃ A : List UInt8, A = t ++ [128] ++ List.replicate (S - t.length - 9) 0 ∧ A.length = S - 8 ∧ (w2.setCell ⟨q, r, none⟩ (.int .u8 128)).heap[q]? = some (.cells (bytesV (A ++ [0, 0, 0, 0, 0, 0, 0, 0])) 5 (0, 0)) := by
  refine ⟨_, rfl, by simp; omega, ?_⟩
  have h2 := heap_set h r (.int .u8 128)
  subst hr
  have h3 := bytesV_set t (List.replicate zz 0 ++ [0, 0, 0, 0, 0, 0, 0, 0]) 0 128
  rw [show ((128 : UInt8).toNat : Int) = 128 from rfl] at h3
  rw [h3] at h2
  rw [h2, hz]
  simp
theorem end_two {w2 : World} {q S : Nat} {A : List UInt8} (hA : A.length = S - 8) (X1 : UInt32) (h : w2.heap[q]? = some (.cells (bytesV (A ++ [0, 0, 0, 0, 0, 0, 0, 0])) 5 (0, 0))) :
    (put4 w2 q (S - 8) X1).heap[q]? = some (.cells (bytesV (A ++ [byW X1 0, byW X1 1, byW X1 2, byW X1 3, 0, 0, 0, 0])) 5 (0, 0)) := by
  have h2 := put4_heap h (S - 8) X1
  have h3 := set4_bytes A [0, 0, 0, 0] 0 0 0 0 X1
  rw [hA] at h3
  rw [h3] at h2
  exact h2
theorem end_three {w2 : World} {q S : Nat} {A : List UInt8} (hA : A.length = S - 8) (hS : 8 ≤ S) (X1 X2 : UInt32) (h : w2.heap[q]? = some (.cells (bytesV (A ++ [byW X1 0, byW X1 1, byW X1 2, byW X1 3, 0, 0, 0, 0])) 5 (0, 0))) :
    (put4 w2 q (S - 4) X2).heap[q]? = some (.cells (bytesV (A ++ [byW X1 0, byW X1 1, byW X1 2, byW X1 3, byW X2 0, byW X2 1, byW X2 2, byW X2 3])) 5 (0, 0)) := by
  have h2 := put4_heap h (S - 4) X2
  have h3 := set4_bytes (A ++ [byW X1 0, byW X1 1, byW X1 2, byW X1 3]) [] 0 0 0 0 X2
  rw [List.append_assoc, List.append_assoc] at h3
  rw [show (A ++ [byW X1 0, byW X1 1, byW X1 2, byW X1 3]).length = S - 4 by simp; omega] at h3
  simp only [List.cons_append, List.nil_append] at h3
  rw [h3] at h2
  exact h2
def endSize (r : Nat) : Nat := if r + 9 ≤ 64 then 64 else 128
set_option maxRecDepth 100000 in
set_option maxHeartbeats 1000000 in
theorem ending_size (size : Nat) (hsize : size = 64 ∨ size = 128) (a : Option Addr) (r c N : Nat) (t : List UInt8) (w : World) (hl : BytesAt w a t) (hn : t.length = r) (hr : r < 64) (hsz : size = endSize r) (hN : N * 8 < 18446744073709551616) (hN2 : N < 9223372036854775808) :
    Calls Tryd.prog 36 #[.slice a r c, .int .i64 N] w fun e w' => e = .returned (.slice (some ⟨w.heap.size, 0, none⟩) size size) ∧ w'.heap[w.heap.size]? = some (.cells (bytesV (endS t size N)) 5 (0, 0)) ∧ Spares nowhere w w' := by
  obtain ⟨i0, hi, hz0, hz1, hz2⟩ := info_parts byteInfo
  have hr9 : r + 9 ≤ size := by rw [hsz]; unfold endSize; split <;> omega
  have hcn : (Lib.byteCells t).length = Nat.min r size := by rw [byteCells_len, hn]; exact (Nat.min_eq_left (by omega)).symm
  have hfit : 0 + (Lib.byteCells t).length ≤ (Lib.byteCells (List.replicate size 0)).length := by rw [byteCells_len, byteCells_len, List.length_replicate]; omega
  have hone := byteCells_one t
  have hi1 : (Tryd.prog.info? 5).map (·.size) = some 1 := by rw [hi]; exact congrArg some hz1
  have hmk := make_bytes size (by omega)
  obtain ⟨zz, hz, hzz⟩ := end_shape t size (by omega)
  obtain ⟨q, hq⟩ : ∃ q, w.heap.size = q := ⟨_, rfl⟩
  have hs0 : Spares nowhere w (w.alloc (.cells (bytesV (List.replicate size 0)) 5)) := (Spares.refl _ _).alloc _
  have hg0 := heap_alloc_new w (.cells (bytesV (List.replicate size 0)) 5)
  have hl0 := hl.spares hs0 (fun _ _ _ h => h)
  have hmk0 := hmk w
  have hpos : ∀ (d : Option Addr), d = some ⟨w.heap.size, 0, none⟩ → 0 < (Lib.byteCells t).length → d = some ⟨w.heap.size, 0, none⟩ ∧ ∃ ad, a = some ad ∧ ∀ j v, (Lib.byteCells t)[j]? = some v → (w.alloc (.cells (bytesV (List.replicate size 0)) 5)).cell? (ad.add j) = some v := fun d hd h0 => by
    rw [byteCells_len] at h0
    obtain ⟨b, off, rfl, _⟩ := hl0 0 h0
    exact ⟨hd, _, rfl, hl0.cells⟩
  have hsp := splice_bytes t size
  rw [hz] at hsp
  obtain ⟨Z0, hZ0⟩ : ∃ Z, Lib.byteCells (List.replicate size 0) = Z := ⟨_, rfl⟩
  have hg0' : (w.alloc (.cells (bytesV (List.replicate size 0)) 5)).heap[w.heap.size]? = some (.cells Z0.toArray 5 (0, 0)) := by rw [← hZ0]; exact hg0
  rw [hZ0] at hfit hsp
  obtain ⟨w1, hw1⟩ : ∃ w1, w.alloc (.cells (bytesV (List.replicate size 0)) 5) = w1 := ⟨_, rfl⟩
  rw [hw1] at hs0 hg0' hl0 hmk0 hpos
  rw [hq] at hg0' hmk0 hpos
  have HG0 : Hid (w1.heap[q]? = some (.cells Z0.toArray 5 (0, 0))) := Lib.hid hg0'
  have HSP : Hid ((splice Z0 0 (Lib.byteCells t)).toArray = bytesV (t ++ 0 :: (List.replicate zz 0 ++ [0, 0, 0, 0, 0, 0, 0, 0]))) := Lib.hid (congrArg List.toArray hsp)
  have HCN := Lib.hid hcn
  have HPOS := Lib.hid hpos
  have HFIT := Lib.hid hfit
  have HONE := Lib.hid hone
  have HS0 := Lib.hid hs0
  have HL0 := Lib.hid hl0
  have HSZ := Lib.hid hsz
  have HZ := Lib.hid hz
  have HZZ := Lib.hid hzz
  have HQ := Lib.hid hq
  have HN := Lib.hid hn
  have HNN := Lib.hid hN
  clear hsz hz hzz hw1 hmk hg0 hs0 hl0 hl hn hN hcn hpos hfit hone hsp hZ0 hg0'
  have sizes : r + 9 ≤ 64 ∧ size = 64 ∨ 64 < r + 9 ∧ size = 128 := by
    have := HSZ.out
    unfold endSize at this
    split at this <;> omega
  rw [hq]
  have k1 : IntKind.u64.wrap (N : Int) = (N : Int) := by rw [IntKind.wrap_u64]; have := HNN.out; omega
  obtain ⟨M, hM⟩ : ∃ M, N * 8 = M := ⟨_, rfl⟩
  have k2 : IntKind.u64.wrap ((N : Int) * 8) = (M : Int) := by rw [IntKind.wrap_u64]; have := HNN.out; omega
  obtain ⟨X1, hX1⟩ : ∃ x, UInt32.ofNat (M / 4294967296) = x := ⟨_, rfl⟩
  obtain ⟨X2, hX2⟩ : ∃ x, UInt32.ofNat M = x := ⟨_, rfl⟩
  have k3 : IntKind.u32.wrap ((M : Int) / 4294967296) = (X1.toNat : Int) := by rw [IntKind.wrap_u32, ← hX1, u32_ofNat]; have := HNN.out; omega
  have k4 : IntKind.u32.wrap (M : Int) = (X2.toNat : Int) := by rw [IntKind.wrap_u32, ← hX2, u32_ofNat]; omega
  have k5 : ((M : Int) / 4294967296) % 4294967296 = (X1.toNat : Int) := by rw [← k3, IntKind.wrap_u32]
  have k6 : (M : Int) % 4294967296 = (X2.toNat : Int) := by rw [← k4, IntKind.wrap_u32]
  have HLB : Hid (lenB N = [byW X1 0, byW X1 1, byW X1 2, byW X1 3, byW X2 0, byW X2 1, byW X2 2, byW X2 3]) := Lib.hid (by rw [lenB_words N HNN.out, hM, hX1, hX2])
  have HC3 : Hid (∀ w2 : World, w2.heap[q]? = some (.cells (splice Z0 0 (Lib.byteCells t)).toArray 5 (0, 0)) → w2.cell? ⟨q, r, none⟩ = some (.int .u8 0)) := Lib.hid (fun w2 hg => by
    rw [HSP.out] at hg
    rw [Lib.cell_of_heap hg, ← HN.out, bytesV_get _ _ (by simp)]
    simp)
  clear hM hX1 hX2
  have hr0 : (r : Int) < 64 := by omega
  rcases sizes with ⟨hle, rfl⟩ | ⟨hgt, rfl⟩
  · have hc : ¬ (64 : Int) < (r : Int) + 9 := by omega
    have hc2 : (r : Int) + 9 ≤ 64 := by omega
    have hmk1 : (Instr.makeSlice 27 (.int .i64 64) (.int .i64 64)).run Tryd.prog w = .ok (.slice (some ⟨q, 0, none⟩) 64 64) w1 := hmk0
    have hrS : (r : Int) < 64 := by omega
    clear hmk0
    go_enter Tryd.func36, Tryd.ntmps36
    go_upto_region 5 with (fail)
    go_wp2_with ((with_reducible show wpList _ _ _ (⟨some 16, _, _, _, _, _⟩ :: _) _ _); refine wpList_copy_splice (o := ⟨some 16, _, _, _, _, _⟩) rfl (.tmp 14) (.tmp 15) 27 27 rfl 5 Tryd.underlying27 hi1 (some ⟨q, 0, none⟩) a 64 64 r c rfl rfl q 0 Z0 5 HG0.out (Lib.byteCells t) HCN.out (HPOS.out _ rfl) HFIT.out HONE.out q w1 (RowKit.Below.refl _ _) (Nat.le_refl _) ?_; intro w2 hg2 hb2; have hc3 := HC3.out w2 hg2.out; have hf3 : w2.frozen? ⟨q, r, none⟩ = false := heap_frozen hg2.out r)
    have hg2' : w2.heap[q]? = some (.cells (bytesV (t ++ 0 :: (List.replicate zz 0 ++ [0, 0, 0, 0, 0, 0, 0, 0]))) 5 (0, 0)) := by rw [← HSP.out]; exact hg2.out
    obtain ⟨A, hA, hAl, hg3⟩ := end_one HN.out (by rw [← HN.out]; exact HZZ.out) hr9 hg2'
    have hg4 := end_two hAl X1 hg3
    have hg5 := end_three hAl (by omega) X1 X2 hg4
    have HP1 := Lib.hid (putWord_any X1 q 56 8 8 _ _ _ (by omega) hg3 (by rw [bytesV_size]; simp; omega))
    have HP2 := Lib.hid (putWord_any X2 q 60 4 4 _ _ _ (by omega) hg4 (by rw [bytesV_size]; simp; omega))
    have HG5 := Lib.hid hg5
    have HE : Hid (A ++ [byW X1 0, byW X1 1, byW X1 2, byW X1 3, byW X2 0, byW X2 1, byW X2 2, byW X2 3] = endS t 64 N) := Lib.hid (by rw [endS, HLB.out, hA])
    have HS2 : Hid (Spares nowhere w w2) := Lib.hid (HS0.out.trans' (Below.spares (F := fun k => q ≤ k) hb2 (fun k hk => .inl hk)) (fun b hb => .inr (by rw [HQ.out]; exact hb)))
    clear hc3 hf3 hg2 hg2' hb2 hA hAl hg3 hg4 hg5
    refine HP1.out.mono ?_
    rintro e w3 ⟨rfl, rfl⟩
    go_wp2_with fail
    refine HP2.out.mono ?_
    rintro e w3 ⟨rfl, rfl⟩
    go_wp2
    go_ret
    refine ⟨rfl, by rw [← HE.out]; exact HG5.out, ?_⟩
    refine HS2.out.trans' (F' := fun b => b = q) ?_ (fun b hb => .inr (by rw [HQ.out]; exact Nat.le_of_eq hb.symm))
    exact ((spares_set (Spares.refl _ w2) r _).trans (put4_spares _ q _ X1)).trans (put4_spares _ q _ X2)
  · have hc : (64 : Int) < (r : Int) + 9 := by omega
    have hmk1 : (Instr.makeSlice 27 (.int .i64 128) (.int .i64 128)).run Tryd.prog w = .ok (.slice (some ⟨q, 0, none⟩) 128 128) w1 := hmk0
    have hrS : (r : Int) < 128 := by omega
    clear hmk0
    go_enter Tryd.func36, Tryd.ntmps36
    go_upto_region 5 with (fail)
    go_wp2_with ((with_reducible show wpList _ _ _ (⟨some 16, _, _, _, _, _⟩ :: _) _ _); refine wpList_copy_splice (o := ⟨some 16, _, _, _, _, _⟩) rfl (.tmp 14) (.tmp 15) 27 27 rfl 5 Tryd.underlying27 hi1 (some ⟨q, 0, none⟩) a 128 128 r c rfl rfl q 0 Z0 5 HG0.out (Lib.byteCells t) HCN.out (HPOS.out _ rfl) HFIT.out HONE.out q w1 (RowKit.Below.refl _ _) (Nat.le_refl _) ?_; intro w2 hg2 hb2; have hc3 := HC3.out w2 hg2.out; have hf3 : w2.frozen? ⟨q, r, none⟩ = false := heap_frozen hg2.out r)
    have hg2' : w2.heap[q]? = some (.cells (bytesV (t ++ 0 :: (List.replicate zz 0 ++ [0, 0, 0, 0, 0, 0, 0, 0]))) 5 (0, 0)) := by rw [← HSP.out]; exact hg2.out
    obtain ⟨A, hA, hAl, hg3⟩ := end_one HN.out (by rw [← HN.out]; exact HZZ.out) hr9 hg2'
    have hg4 := end_two hAl X1 hg3
    have hg5 := end_three hAl (by omega) X1 X2 hg4
    have HP1 := Lib.hid (putWord_any X1 q 120 8 8 _ _ _ (by omega) hg3 (by rw [bytesV_size]; simp; omega))
    have HP2 := Lib.hid (putWord_any X2 q 124 4 4 _ _ _ (by omega) hg4 (by rw [bytesV_size]; simp; omega))
    have HG5 := Lib.hid hg5
    have HE : Hid (A ++ [byW X1 0, byW X1 1, byW X1 2, byW X1 3, byW X2 0, byW X2 1, byW X2 2, byW X2 3] = endS t 128 N) := Lib.hid (by rw [endS, HLB.out, hA])
    have HS2 : Hid (Spares nowhere w w2) := Lib.hid (HS0.out.trans' (Below.spares (F := fun k => q ≤ k) hb2 (fun k hk => .inl hk)) (fun b hb => .inr (by rw [HQ.out]; exact hb)))
    clear hc3 hf3 hg2 hg2' hb2 hA hAl hg3 hg4 hg5
    refine HP1.out.mono ?_
    rintro e w3 ⟨rfl, rfl⟩
    go_wp2_with fail
    refine HP2.out.mono ?_
    rintro e w3 ⟨rfl, rfl⟩
    go_wp2
    go_ret
    refine ⟨rfl, by rw [← HE.out]; exact HG5.out, ?_⟩
    refine HS2.out.trans' (F' := fun b => b = q) ?_ (fun b hb => .inr (by rw [HQ.out]; exact Nat.le_of_eq hb.symm))
    exact ((spares_set (Spares.refl _ w2) r _).trans (put4_spares _ q _ X1)).trans (put4_spares _ q _ X2)
end Go.Proofs.YtimpnnhadjfijaaDoor
