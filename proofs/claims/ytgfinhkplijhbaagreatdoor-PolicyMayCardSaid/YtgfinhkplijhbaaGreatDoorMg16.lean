/-
  ending: the last block or two of a text, padded.
  A text's whole blocks and its padded end are the padded text; take of any slice; the words written out.
  The reference's pad: a text as it is summed.
  The reference's Put: a number's bytes, the highest first, behind a row.
  Two keys of 32 bytes, held against one another.
-/
import Derived.Laws.CopyOwn
import Derived.DeepKeys
import Derived.Test.YtgfinhkplijhbaaGreatDoorMg7
import Derived.Test.YtgfinhkplijhbaaGreatDoorMg15
namespace Go.Proofs.YtgfinhkplijhbaaGreatDoor
open Go.RowKit

def bytesV (l : List UInt8) : Array Value := (Lib.byteCells l).toArray
theorem bytesV_size (l : List UInt8) : (bytesV l).size = l.length := by simp [bytesV, Lib.byteCells]
theorem bytesV_get (l : List UInt8) (i : Nat) (h : i < l.length) : (bytesV l)[i]? = some (.int .u8 (l.getD i 0).toNat) := by
  simp [bytesV, Lib.byteCells, List.getD_eq_getElem?_getD, List.getElem?_eq_getElem h]
theorem bytesV_at {w : World} {g : Nat} {t : TypeId} {l : List UInt8} (h : w.heap[g]? = some (.cells (bytesV l) t (0, 0))) : BytesAt w (some ⟨g, 0, none⟩) l := by
  intro k hk
  refine ⟨g, 0, rfl, ?_⟩
  rw [Nat.zero_add, Lib.cell_of_heap h, bytesV_get l k hk, List.getD_eq_getElem?_getD, List.getElem?_eq_getElem hk]
  rfl
theorem bytesV_set (A B : List UInt8) (y x : UInt8) : (bytesV (A ++ y :: B)).setIfInBounds A.length (.int .u8 x.toNat) = bytesV (A ++ x :: B) := by
  simp [bytesV, Lib.byteCells]
theorem set4_bytes (A B : List UInt8) (y0 y1 y2 y3 : UInt8) (x : UInt32) : set4 (bytesV (A ++ y0 :: y1 :: y2 :: y3 :: B)) A.length x = bytesV (A ++ byW x 0 :: byW x 1 :: byW x 2 :: byW x 3 :: B) := by
  unfold set4 byCell
  rw [bytesV_set A]
  have h1 := bytesV_set (A ++ [byW x 0]) (y2 :: y3 :: B) y1 (byW x 1)
  have h2 := bytesV_set (A ++ [byW x 0, byW x 1]) (y3 :: B) y2 (byW x 2)
  have h3 := bytesV_set (A ++ [byW x 0, byW x 1, byW x 2]) B y3 (byW x 3)
  simp only [List.length_append, List.length_cons, List.length_nil, List.append_assoc, List.cons_append, List.nil_append, Nat.zero_add, Nat.reduceAdd] at h1 h2 h3
  rw [h1, h2, h3]
/-- The last block or two. -/
def endS (t : List UInt8) (size n : Nat) : List UInt8 := t ++ [128] ++ List.replicate (size - t.length - 9) 0 ++ lenB n
theorem lenB_words (n : Nat) (h : n * 8 < 18446744073709551616) : lenB n = [byW (UInt32.ofNat (n * 8 / 4294967296)) 0, byW (UInt32.ofNat (n * 8 / 4294967296)) 1, byW (UInt32.ofNat (n * 8 / 4294967296)) 2, byW (UInt32.ofNat (n * 8 / 4294967296)) 3, byW (UInt32.ofNat (n * 8)) 0, byW (UInt32.ofNat (n * 8)) 1, byW (UInt32.ofNat (n * 8)) 2, byW (UInt32.ofNat (n * 8)) 3] := by
  obtain ⟨m, hm⟩ : ∃ m, n * 8 = m := ⟨_, rfl⟩
  rw [hm] at h
  unfold lenB byW
  rw [hm, show List.range 8 = [0, 1, 2, 3, 4, 5, 6, 7] from rfl]
  simp only [List.map_cons, List.map_nil, u32_ofNat]
  simp only [← UInt8.toNat_inj, UInt8.toNat_ofNat', List.cons.injEq, and_true]
  refine ⟨?_, ?_, ?_, ?_, ?_, ?_, ?_, ?_⟩ <;> simp only [Nat.reduceSub, Nat.reducePow] <;> omega
set_option maxRecDepth 100000 in
theorem make_bytes (n : Nat) (hn : n ≤ 281474976710656) (w : World) : (Instr.makeSlice 23 (.int .i64 (n : Int)) (.int .i64 (n : Int))).run Tryz.prog w = .ok (.slice (some ⟨w.heap.size, 0, none⟩) n n) (w.alloc (.cells (bytesV (List.replicate n 0)) 5)) := by
  obtain ⟨i0, hi, hz0, hz1, hz2⟩ := info_parts byteInfo
  have h := run_make (P := Tryz.prog) w 23 5 i0 (.int .u8 0) Tryz.underlying23 hi hz0 .i64 .i64 (n : Int) (n : Int) (by omega) (by omega) (by rw [hz2]; omega) (by omega)
  rw [h]
  simp only [Int.toNat_natCast, hz1, Nat.mul_one]
  congr 3
  apply Array.ext'
  rw [show (Value.int IntKind.u8 0).cells = #[.int .u8 0] from rfl, toList_madeCells_one]
  simp [bytesV, Lib.byteCells]
theorem splice_bytes (t : List UInt8) (n : Nat) : splice (Lib.byteCells (List.replicate n 0)) 0 (Lib.byteCells t) = Lib.byteCells (t ++ List.replicate (n - t.length) 0) := by
  unfold splice
  rw [byteCells_app, byteCells_len]
  simp [Lib.byteCells]
/-- What the block is before its length is written. -/
theorem end_shape (t : List UInt8) (size : Nat) (h : t.length + 9 ≤ size) : ∃ z, t ++ List.replicate (size - t.length) (0 : UInt8) = t ++ 0 :: (List.replicate z 0 ++ [0, 0, 0, 0, 0, 0, 0, 0]) ∧ z = size - t.length - 9 := by
  refine ⟨size - t.length - 9, ?_, rfl⟩
  obtain ⟨z, hz⟩ : ∃ z, size - t.length - 9 = z := ⟨_, rfl⟩
  rw [hz, show size - t.length = 1 + (z + 8) by omega, ← List.replicate_append_replicate, ← List.replicate_append_replicate]
  rfl
theorem end_one {w2 : World} {q r zz S : Nat} {t : List UInt8} (hr : t.length = r) (hz : zz = S - r - 9) (hS : r + 9 ≤ S) (h : w2.heap[q]? = some (.cells (bytesV (t ++ 0 :: (List.replicate zz 0 ++ [0, 0, 0, 0, 0, 0, 0, 0]))) 5 (0, 0))) :
    ∃ A : List UInt8, A = t ++ [128] ++ List.replicate (S - t.length - 9) 0 ∧ A.length = S - 8 ∧ (w2.setCell ⟨q, r, none⟩ (.int .u8 128)).heap[q]? = some (.cells (bytesV (A ++ [0, 0, 0, 0, 0, 0, 0, 0])) 5 (0, 0)) := by
  refine ⟨_, rfl, by simp; omega, ?_⟩
  have h2 := heap_set h r (.int .u8 128)
  subst hr
  have h3 := bytesV_set t (List.replicate zz 0 ++ [0, 0, 0, 0, 0, 0, 0, 0]) 0 128
  rw [show ((128 : UInt8).toNat : Int) = 128 from rfl] at h3
  rw [h3] at h2
  rw [h2, hz]
  simp
theorem end_two {w2 : World} {q S : Nat} {A : List UInt8} (hA : A.length = S - 8) (X1 : UInt32) (h : w2.heap[q]? = some (.cells (bytesV (A ++ [0, 0, 0, 0, 0, 0, 0, 0])) 5 (0, 0))) :
    (put4 w2 q (S - 8) X1).heap[q]? = some (.cells (bytesV (A ++ [byW X1 0, byW X1 1, byW X1 2, byW X1 3, 0, 0, 0, 0])) 5 (0, 0)) := by
  have h2 := put4_heap h (S - 8) X1
  have h3 := set4_bytes A [0, 0, 0, 0] 0 0 0 0 X1
  rw [hA] at h3
  rw [h3] at h2
  exact h2
theorem end_three {w2 : World} {q S : Nat} {A : List UInt8} (hA : A.length = S - 8) (hS : 8 ≤ S) (X1 X2 : UInt32) (h : w2.heap[q]? = some (.cells (bytesV (A ++ [byW X1 0, byW X1 1, byW X1 2, byW X1 3, 0, 0, 0, 0])) 5 (0, 0))) :
    (put4 w2 q (S - 4) X2).heap[q]? = some (.cells (bytesV (A ++ [byW X1 0, byW X1 1, byW X1 2, byW X1 3, byW X2 0, byW X2 1, byW X2 2, byW X2 3])) 5 (0, 0)) := by
  have h2 := put4_heap h (S - 4) X2
  have h3 := set4_bytes (A ++ [byW X1 0, byW X1 1, byW X1 2, byW X1 3]) [] 0 0 0 0 X2
  rw [List.append_assoc, List.append_assoc] at h3
  rw [show (A ++ [byW X1 0, byW X1 1, byW X1 2, byW X1 3]).length = S - 4 by simp; omega] at h3
  simp only [List.cons_append, List.nil_append] at h3
  rw [h3] at h2
  exact h2
def endSize (r : Nat) : Nat := if r + 9 ≤ 64 then 64 else 128
set_option maxRecDepth 100000 in
set_option maxHeartbeats 1000000 in
theorem ending_size (size : Nat) (hsize : size = 64 ∨ size = 128) (a : Option Addr) (r c N : Nat) (t : List UInt8) (w : World) (hl : BytesAt w a t) (hn : t.length = r) (hr : r < 64) (hsz : size = endSize r) (hN : N * 8 < 18446744073709551616) (hN2 : N < 9223372036854775808) :
    Calls Tryz.prog 84 #[.slice a r c, .int .i64 N] w fun e w' => e = .returned (.slice (some ⟨w.heap.size, 0, none⟩) size size) ∧ w'.heap[w.heap.size]? = some (.cells (bytesV (endS t size N)) 5 (0, 0)) ∧ Spares nowhere w w' := by
  obtain ⟨i0, hi, hz0, hz1, hz2⟩ := info_parts byteInfo
  have hr9 : r + 9 ≤ size := by rw [hsz]; unfold endSize; split <;> omega
  have hcn : (Lib.byteCells t).length = Nat.min r size := by rw [byteCells_len, hn]; exact (Nat.min_eq_left (by omega)).symm
  have hfit : 0 + (Lib.byteCells t).length ≤ (Lib.byteCells (List.replicate size 0)).length := by rw [byteCells_len, byteCells_len, List.length_replicate]; omega
  have hone := byteCells_one t
  have hi1 : (Tryz.prog.info? 5).map (·.size) = some 1 := by rw [hi]; exact congrArg some hz1
  have hmk := make_bytes size (by omega)
  obtain ⟨zz, hz, hzz⟩ := end_shape t size (by omega)
  obtain ⟨q, hq⟩ : ∃ q, w.heap.size = q := ⟨_, rfl⟩
  have hs0 : Spares nowhere w (w.alloc (.cells (bytesV (List.replicate size 0)) 5)) := (Spares.refl _ _).alloc _
  have hg0 := heap_alloc_new w (.cells (bytesV (List.replicate size 0)) 5)
  have hl0 := hl.spares hs0 (fun _ _ _ h => h)
  have hmk0 := hmk w
  have hpos : ∀ (d : Option Addr), d = some ⟨w.heap.size, 0, none⟩ → 0 < (Lib.byteCells t).length → d = some ⟨w.heap.size, 0, none⟩ ∧ ∃ ad, a = some ad ∧ ∀ j v, (Lib.byteCells t)[j]? = some v → (w.alloc (.cells (bytesV (List.replicate size 0)) 5)).cell? (ad.add j) = some v := fun d hd h0 => by
    rw [byteCells_len] at h0
    obtain ⟨b, off, rfl, _⟩ := hl0 0 h0
    exact ⟨hd, _, rfl, hl0.cells⟩
  have hsp := splice_bytes t size
  rw [hz] at hsp
  obtain ⟨Z0, hZ0⟩ : ∃ Z, Lib.byteCells (List.replicate size 0) = Z := ⟨_, rfl⟩
  have hg0' : (w.alloc (.cells (bytesV (List.replicate size 0)) 5)).heap[w.heap.size]? = some (.cells Z0.toArray 5 (0, 0)) := by rw [← hZ0]; exact hg0
  rw [hZ0] at hfit hsp
  obtain ⟨w1, hw1⟩ : ∃ w1, w.alloc (.cells (bytesV (List.replicate size 0)) 5) = w1 := ⟨_, rfl⟩
  rw [hw1] at hs0 hg0' hl0 hmk0 hpos
  rw [hq] at hg0' hmk0 hpos
  have HG0 : Hid (w1.heap[q]? = some (.cells Z0.toArray 5 (0, 0))) := Lib.hid hg0'
  have HSP : Hid ((splice Z0 0 (Lib.byteCells t)).toArray = bytesV (t ++ 0 :: (List.replicate zz 0 ++ [0, 0, 0, 0, 0, 0, 0, 0]))) := Lib.hid (congrArg List.toArray hsp)
  have HCN := Lib.hid hcn
  have HPOS := Lib.hid hpos
  have HFIT := Lib.hid hfit
  have HONE := Lib.hid hone
  have HS0 := Lib.hid hs0
  have HL0 := Lib.hid hl0
  have HSZ := Lib.hid hsz
  have HZ := Lib.hid hz
  have HZZ := Lib.hid hzz
  have HQ := Lib.hid hq
  have HN := Lib.hid hn
  have HNN := Lib.hid hN
  clear hsz hz hzz hw1 hmk hg0 hs0 hl0 hl hn hN hcn hpos hfit hone hsp hZ0 hg0'
  have sizes : r + 9 ≤ 64 ∧ size = 64 ∨ 64 < r + 9 ∧ size = 128 := by
    have := HSZ.out
    unfold endSize at this
    split at this <;> omega
  rw [hq]
  have k1 : IntKind.u64.wrap (N : Int) = (N : Int) := by rw [IntKind.wrap_u64]; have := HNN.out; omega
  obtain ⟨M, hM⟩ : ∃ M, N * 8 = M := ⟨_, rfl⟩
  have k2 : IntKind.u64.wrap ((N : Int) * 8) = (M : Int) := by rw [IntKind.wrap_u64]; have := HNN.out; omega
  obtain ⟨X1, hX1⟩ : ∃ x, UInt32.ofNat (M / 4294967296) = x := ⟨_, rfl⟩
  obtain ⟨X2, hX2⟩ : ∃ x, UInt32.ofNat M = x := ⟨_, rfl⟩
  have k3 : IntKind.u32.wrap ((M : Int) / 4294967296) = (X1.toNat : Int) := by rw [IntKind.wrap_u32, ← hX1, u32_ofNat]; have := HNN.out; omega
  have k4 : IntKind.u32.wrap (M : Int) = (X2.toNat : Int) := by rw [IntKind.wrap_u32, ← hX2, u32_ofNat]; omega
  have k5 : ((M : Int) / 4294967296) % 4294967296 = (X1.toNat : Int) := by rw [← k3, IntKind.wrap_u32]
  have k6 : (M : Int) % 4294967296 = (X2.toNat : Int) := by rw [← k4, IntKind.wrap_u32]
  have HLB : Hid (lenB N = [byW X1 0, byW X1 1, byW X1 2, byW X1 3, byW X2 0, byW X2 1, byW X2 2, byW X2 3]) := Lib.hid (by rw [lenB_words N HNN.out, hM, hX1, hX2])
  have HC3 : Hid (∀ w2 : World, w2.heap[q]? = some (.cells (splice Z0 0 (Lib.byteCells t)).toArray 5 (0, 0)) → w2.cell? ⟨q, r, none⟩ = some (.int .u8 0)) := Lib.hid (fun w2 hg => by
    rw [HSP.out] at hg
    rw [Lib.cell_of_heap hg, ← HN.out, bytesV_get _ _ (by simp)]
    simp)
  clear hM hX1 hX2
  have hr0 : (r : Int) < 64 := by omega
  rcases sizes with ⟨hle, rfl⟩ | ⟨hgt, rfl⟩
  · have hc : ¬ (64 : Int) < (r : Int) + 9 := by omega
    have hc2 : (r : Int) + 9 ≤ 64 := by omega
    have hmk1 : (Instr.makeSlice 23 (.int .i64 64) (.int .i64 64)).run Tryz.prog w = .ok (.slice (some ⟨q, 0, none⟩) 64 64) w1 := hmk0
    have hrS : (r : Int) < 64 := by omega
    clear hmk0
    go_enter Tryz.func84, Tryz.ntmps84
    go_upto_region 5 with (fail)
    go_wp2_with ((with_reducible show wpList _ _ _ (⟨some 16, _, _, _, _, _⟩ :: _) _ _); refine wpList_copy_splice (o := ⟨some 16, _, _, _, _, _⟩) rfl (.tmp 14) (.tmp 15) 23 23 rfl 5 Tryz.underlying23 hi1 (some ⟨q, 0, none⟩) a 64 64 r c rfl rfl q 0 Z0 5 HG0.out (Lib.byteCells t) HCN.out (HPOS.out _ rfl) HFIT.out HONE.out q w1 (RowKit.Below.refl _ _) (Nat.le_refl _) ?_; intro w2 hg2 hb2; have hc3 := HC3.out w2 hg2.out; have hf3 : w2.frozen? ⟨q, r, none⟩ = false := heap_frozen hg2.out r)
    have hg2' : w2.heap[q]? = some (.cells (bytesV (t ++ 0 :: (List.replicate zz 0 ++ [0, 0, 0, 0, 0, 0, 0, 0]))) 5 (0, 0)) := by rw [← HSP.out]; exact hg2.out
    obtain ⟨A, hA, hAl, hg3⟩ := end_one HN.out (by rw [← HN.out]; exact HZZ.out) hr9 hg2'
    have hg4 := end_two hAl X1 hg3
    have hg5 := end_three hAl (by omega) X1 X2 hg4
    have HP1 := Lib.hid (putWord_any X1 q 56 8 8 _ _ _ (by omega) hg3 (by rw [bytesV_size]; simp; omega))
    have HP2 := Lib.hid (putWord_any X2 q 60 4 4 _ _ _ (by omega) hg4 (by rw [bytesV_size]; simp; omega))
    have HG5 := Lib.hid hg5
    have HE : Hid (A ++ [byW X1 0, byW X1 1, byW X1 2, byW X1 3, byW X2 0, byW X2 1, byW X2 2, byW X2 3] = endS t 64 N) := Lib.hid (by rw [endS, HLB.out, hA])
    have HS2 : Hid (Spares nowhere w w2) := Lib.hid (HS0.out.trans' (Below.spares (F := fun k => q ≤ k) hb2 (fun k hk => .inl hk)) (fun b hb => .inr (by rw [HQ.out]; exact hb)))
    clear hc3 hf3 hg2 hg2' hb2 hA hAl hg3 hg4 hg5
    refine HP1.out.mono ?_
    rintro e w3 ⟨rfl, rfl⟩
    go_wp2_with fail
    refine HP2.out.mono ?_
    rintro e w3 ⟨rfl, rfl⟩
    go_wp2
    go_ret
    refine ⟨rfl, by rw [← HE.out]; exact HG5.out, ?_⟩
    refine HS2.out.trans' (F' := fun b => b = q) ?_ (fun b hb => .inr (by rw [HQ.out]; exact Nat.le_of_eq hb.symm))
    exact ((spares_set (Spares.refl _ w2) r _).trans (put4_spares _ q _ X1)).trans (put4_spares _ q _ X2)
  · have hc : (64 : Int) < (r : Int) + 9 := by omega
    have hmk1 : (Instr.makeSlice 23 (.int .i64 128) (.int .i64 128)).run Tryz.prog w = .ok (.slice (some ⟨q, 0, none⟩) 128 128) w1 := hmk0
    have hrS : (r : Int) < 128 := by omega
    clear hmk0
    go_enter Tryz.func84, Tryz.ntmps84
    go_upto_region 5 with (fail)
    go_wp2_with ((with_reducible show wpList _ _ _ (⟨some 16, _, _, _, _, _⟩ :: _) _ _); refine wpList_copy_splice (o := ⟨some 16, _, _, _, _, _⟩) rfl (.tmp 14) (.tmp 15) 23 23 rfl 5 Tryz.underlying23 hi1 (some ⟨q, 0, none⟩) a 128 128 r c rfl rfl q 0 Z0 5 HG0.out (Lib.byteCells t) HCN.out (HPOS.out _ rfl) HFIT.out HONE.out q w1 (RowKit.Below.refl _ _) (Nat.le_refl _) ?_; intro w2 hg2 hb2; have hc3 := HC3.out w2 hg2.out; have hf3 : w2.frozen? ⟨q, r, none⟩ = false := heap_frozen hg2.out r)
    have hg2' : w2.heap[q]? = some (.cells (bytesV (t ++ 0 :: (List.replicate zz 0 ++ [0, 0, 0, 0, 0, 0, 0, 0]))) 5 (0, 0)) := by rw [← HSP.out]; exact hg2.out
    obtain ⟨A, hA, hAl, hg3⟩ := end_one HN.out (by rw [← HN.out]; exact HZZ.out) hr9 hg2'
    have hg4 := end_two hAl X1 hg3
    have hg5 := end_three hAl (by omega) X1 X2 hg4
    have HP1 := Lib.hid (putWord_any X1 q 120 8 8 _ _ _ (by omega) hg3 (by rw [bytesV_size]; simp; omega))
    have HP2 := Lib.hid (putWord_any X2 q 124 4 4 _ _ _ (by omega) hg4 (by rw [bytesV_size]; simp; omega))
    have HG5 := Lib.hid hg5
    have HE : Hid (A ++ [byW X1 0, byW X1 1, byW X1 2, byW X1 3, byW X2 0, byW X2 1, byW X2 2, byW X2 3] = endS t 128 N) := Lib.hid (by rw [endS, HLB.out, hA])
    have HS2 : Hid (Spares nowhere w w2) := Lib.hid (HS0.out.trans' (Below.spares (F := fun k => q ≤ k) hb2 (fun k hk => .inl hk)) (fun b hb => .inr (by rw [HQ.out]; exact hb)))
    clear hc3 hf3 hg2 hg2' hb2 hA hAl hg3 hg4 hg5
    refine HP1.out.mono ?_
    rintro e w3 ⟨rfl, rfl⟩
    go_wp2_with fail
    refine HP2.out.mono ?_
    rintro e w3 ⟨rfl, rfl⟩
    go_wp2
    go_ret
    refine ⟨rfl, by rw [← HE.out]; exact HG5.out, ?_⟩
    refine HS2.out.trans' (F' := fun b => b = q) ?_ (fun b hb => .inr (by rw [HQ.out]; exact Nat.le_of_eq hb.symm))
    exact ((spares_set (Spares.refl _ w2) r _).trans (put4_spares _ q _ X1)).trans (put4_spares _ q _ X2)
end Go.Proofs.YtgfinhkplijhbaaGreatDoor
namespace Go.Proofs.YtgfinhkplijhbaaGreatDoor
open Go.RowKit

theorem takeS_front : ∀ (m : Nat) (s : S8) (A B : List UInt8), A.length = 64 * m → takeS m s (A ++ B) = takeS m s A
  | 0, _, _, _, _ => rfl
  | m + 1, s, A, B, h => by
    have h1 : ∀ X : List UInt8, (A ++ X).take 64 = A.take 64 := fun X => by rw [List.take_append_of_le_length (by omega)]
    have h2 : ∀ X : List UInt8, (A ++ X).drop 64 = A.drop 64 ++ X := fun X => by rw [List.drop_append_of_le_length (by omega)]
    rw [takeS, takeS, h1, h2, takeS_front m _ (A.drop 64) B (by rw [List.length_drop]; omega)]
theorem takeS_both : ∀ (m k : Nat) (s : S8) (A B : List UInt8), A.length = 64 * m → takeS (m + k) s (A ++ B) = takeS k (takeS m s A) B
  | 0, k, s, A, B, h => by
    obtain rfl : A = [] := List.eq_nil_of_length_eq_zero (by omega)
    simp [takeS]
  | m + 1, k, s, A, B, h => by
    have h1 : ∀ X : List UInt8, (A ++ X).take 64 = A.take 64 := fun X => by rw [List.take_append_of_le_length (by omega)]
    have h2 : ∀ X : List UInt8, (A ++ X).drop 64 = A.drop 64 ++ X := fun X => by rw [List.drop_append_of_le_length (by omega)]
    rw [show m + 1 + k = (m + k) + 1 by omega, takeS, takeS, h1, h2, takeS_both m k _ (A.drop 64) B (by rw [List.length_drop]; omega)]
theorem pad_split (l : List UInt8) (m r : Nat) (h : r + 64 * m = l.length) (hr : r < 64) : padS l = l.take (64 * m) ++ endS (l.drop (64 * m)) (endSize r) l.length := by
  have hd : (l.drop (64 * m)).length = r := by rw [List.length_drop]; omega
  unfold padS endS
  rw [hd, ← List.append_assoc, ← List.append_assoc, ← List.append_assoc, List.take_append_drop]
  rw [show endSize r - r - 9 = (119 - l.length % 64) % 64 by unfold endSize; split <;> omega]
theorem endS_len (t : List UInt8) (n r : Nat) (h : t.length = r) (hr : r < 64) : (endS t (endSize r) n).length = endSize r := by
  unfold endS lenB endSize
  simp only [List.length_append, List.length_replicate, List.length_map, List.length_range, List.length_cons, List.length_nil, h]
  split <;> omega
theorem sum_split (l : List UInt8) (m r k : Nat) (h : r + 64 * m = l.length) (hr : r < 64) (hk : 64 * k = endSize r) : takeS k (takeS m startS l) (endS (l.drop (64 * m)) (endSize r) l.length) = takeS ((padS l).length / 64) startS (padS l) := by
  have hA : (l.take (64 * m)).length = 64 * m := by rw [List.length_take]; omega
  have hE : (endS (l.drop (64 * m)) (endSize r) l.length).length = 64 * k := by rw [endS_len _ _ r (by rw [List.length_drop]; omega) hr, hk]
  rw [pad_split l m r h hr, List.length_append, hA, hE, show (64 * m + 64 * k) / 64 = m + k by omega, takeS_both m k _ _ _ hA]
  congr 1
  have := takeS_front m startS (l.take (64 * m)) (l.drop (64 * m)) hA
  rw [List.take_append_drop] at this
  exact this
/-- What take leaves, of any slice. -/
def TakenA (p : Nat) (z : Value) (s : S8) (l : List UInt8) (w : World) (e : Ending) (w' : World) : Prop :=
  ∃ (m n c : Nat) (a : Option Addr), n + 64 * m = l.length ∧ n < 64 ∧ e = .returned (.slice a n c) ∧ BytesAt w' a (l.drop (64 * m)) ∧ w'.heap[p]? = some (.cells (sumCells 1 0 z madeV (stV (takeS m s l))) 113 (0, 0)) ∧ Spares (fun b => b = p) w w'
set_option maxRecDepth 100000 in
theorem take_none (p : Nat) (a : Option Addr) (c : Nat) (w : World) :
    Calls Tryz.prog 83 #[.pointer (some ⟨p, 0, none⟩), .slice a 0 c] w fun e w' => e = .returned (.slice a 0 c) ∧ w' = w := by
  go_enter Tryz.func83, Tryz.ntmps83
  go_wp2
  go_loopw [1] (fun v wr => v = .slice a 0 c ∧ wr = w) (fun v _ => lenV v)
  case atStart => exact ⟨rfl, rfl⟩
  case round =>
    obtain ⟨rfl, rfl⟩ := hrel
    go_wp2
    go_ret
    exact ⟨rfl, rfl⟩
theorem take_bytes (p : Nat) (z : Value) (s : S8) (a : Option Addr) (n c : Nat) (l : List UInt8) (w : World) (hg : w.heap[p]? = some (.cells (sumCells 1 0 z madeV (stV s)) 113 (0, 0)))
    (hl : BytesAt w a l) (hn : n = l.length) (hmax : n < 9223372036854775808) (hnc : n ≤ c) (hbp : 0 < l.length → ∀ b off, a = some ⟨b, off, none⟩ → b ≠ p) :
    Calls Tryz.prog 83 #[.pointer (some ⟨p, 0, none⟩), .slice a n c] w (TakenA p z s l w) := by
  by_cases h0 : 0 < l.length
  · obtain ⟨b, off, rfl, hc⟩ := hl 0 h0
    have hb : b < w.heap.size := by
      rcases Nat.lt_or_ge b w.heap.size with h | h
      · exact h
      · simp [World.cell?, Array.getElem?_eq_none h] at hc
    refine (take_any p z s b off n c l w hg hl hn hmax hnc (hbp h0 _ _ rfl) hb).mono ?_
    rintro e w' ⟨m, o, k, c', h1, h2, _, h4, h5, h6, h7⟩
    exact ⟨m, k, c', _, h1, h2, h4, h5, h6, h7⟩
  · obtain rfl : l = [] := List.eq_nil_of_length_eq_zero (by omega)
    obtain rfl : n = 0 := hn
    refine (take_none p a c w).mono ?_
    rintro e w' ⟨rfl, rfl⟩
    exact ⟨0, 0, c, a, rfl, by omega, rfl, bytesAt_nil _ _, hg, Spares.refl _ _⟩
/-- The key while it is written: the first words' bytes, then noughts. -/
def outK (k : Nat) (s : S8) : List UInt8 := ((wl s).take k).flatMap (fun x => [byW x 0, byW x 1, byW x 2, byW x 3]) ++ List.replicate (32 - 4 * k) 0
theorem outK_none (s : S8) : outK 0 s = List.replicate 32 0 := by simp [outK]
theorem outK_all (s : S8) : outK 8 s = outS s := by simp [outK, outS, wl]
theorem outK_len (k : Nat) (h : k ≤ 8) (s : S8) : (outK k s).length = 32 := by
  unfold outK
  rw [List.length_append, List.length_replicate]
  have : (List.flatMap (fun x => [byW x 0, byW x 1, byW x 2, byW x 3]) (List.take k (wl s))).length = 4 * k := by
    obtain rfl | rfl | rfl | rfl | rfl | rfl | rfl | rfl | rfl : k = 0 ∨ k = 1 ∨ k = 2 ∨ k = 3 ∨ k = 4 ∨ k = 5 ∨ k = 6 ∨ k = 7 ∨ k = 8 := by omega
    all_goals rfl
  omega
theorem outK_step (k : Nat) (h : k < 8) (s : S8) : set4 (bytesV (outK k s)) (4 * k) ((wl s).getD k 0) = bytesV (outK (k + 1) s) := by
  obtain rfl | rfl | rfl | rfl | rfl | rfl | rfl | rfl : k = 0 ∨ k = 1 ∨ k = 2 ∨ k = 3 ∨ k = 4 ∨ k = 5 ∨ k = 6 ∨ k = 7 := by omega
  all_goals rfl
end Go.Proofs.YtgfinhkplijhbaaGreatDoor
namespace Go.Proofs.YtgfinhkplijhbaaGreatDoor
open Go.RowKit

theorem lenB_len (n : Nat) : (lenB n).length = 8 := by simp [lenB]
theorem lenB_take (n k j : Nat) (hk : k < 8) (hj : 7 - k = j) : (lenB n).take (k + 1) = (lenB n).take k ++ [UInt8.ofNat (n * 8 / 256 ^ j)] := by
  rw [List.take_add_one, List.getElem?_eq_getElem (by rw [lenB_len]; exact hk), ← hj]
  simp [lenB]
theorem byte_shift (M j s : Nat) (hs : 8 * j = s) : ((M : Int) / 2 ^ s) % 256 = ((UInt8.ofNat (M / 256 ^ j)).toNat : Int) := by
  have e : (2 : Int) ^ s = ((256 ^ j : Nat) : Int) := by rw [← hs, show (256 : Nat) = 2 ^ 8 from rfl, ← Nat.pow_mul]; simp
  rw [UInt8.toNat_ofNat', e, ← Int.natCast_ediv]
  simp
set_option maxRecDepth 100000 in
set_option maxHeartbeats 1000000 in
theorem pad_any (a : Option Addr) (n c : Nat) (l : List UInt8) (w : World) (hl : BytesAt w a l) (hn : n = l.length) (hmax : n ≤ 70368744177664) (hnil : a = none → c = 0) :
    Calls Tryz.prog 86 #[.slice a n c] w fun e w' => ∃ v, e = .returned v ∧ Row8 w.heap.size w' v (padS l) ∧ Spares nowhere w w' := by
  have HL := Lib.hid hl
  have HN := Lib.hid hn
  have HNIL := Lib.hid hnil
  clear hl hn hnil
  go_enter Tryz.func86, Tryz.ntmps86
  go_wp2_with (first
    | ((with_reducible show wpList _ _ _ (⟨some 7, _, _, _, _, _⟩ :: _) _ _); refine wpList_row_bytes rfl _ _ rfl w.heap.size _ [] rfl (row8_nil _ _) a c n l rfl HN.out HL.out HNIL.out (by simp; omega) (Nat.le_refl _) ?_; intro v7 w7 hr7 hs7; have HR7 := Lib.hid hr7; have HS7 := Lib.hid hs7; have hB7 := hs7.size; clear hr7 hs7)
    | ((with_reducible show wpList _ _ _ (⟨some 9, _, _, _, _, _⟩ :: _) _ _); refine wpList_row_one rfl _ _ rfl w.heap.size v7 _ rfl HR7.out 128 _ rfl rfl (by have := HN.out; simp; omega) hB7 ?_; intro v9 w9 hr9 hs9; have HR9 := Lib.hid hr9; have HS9 := Lib.hid hs9; clear hr9 hs9))
  have HS9n : Hid (Spares nowhere w w9) := Lib.hid ((HS7.out.trans HS9.out).mono (fun _ h => .inr h))
  obtain ⟨D, hD⟩ : ∃ D, l ++ [128] = D := ⟨_, rfl⟩
  have hDl : D.length = n + 1 := by rw [← hD, HN.out]; simp
  have HR9n : Hid (Row8 w.heap.size w9 v9 (D ++ List.replicate 0 0)) := Lib.hid (by have := HR9.out; rw [List.nil_append, hD] at this; simpa using this)
  have HDD := Lib.hid hD
  have HDL := Lib.hid hDl
  obtain ⟨T, hT⟩ : ∃ T, (119 - n % 64) % 64 = T := ⟨_, rfl⟩
  have hT1 : T < 64 ∧ (n + 1 + T) % 64 = 56 ∧ ∀ z, z < T → (n + 1 + z) % 64 ≠ 56 := ⟨by omega, by omega, fun z hz => by omega⟩
  have HT := Lib.hid hT
  have HT1 := Lib.hid hT1
  clear HR7 HS7 hB7 HR9 HS9 hD hDl hT hT1 HNIL
  go_loopw [3] (fun v wr => ∃ z : Nat, z ≤ T ∧ Hid (Row8 w.heap.size wr v (D ++ List.replicate z 0)) ∧ Hid (Spares nowhere w wr)) (fun v _ => n + 1 + T - lenV v)
  case atStart => exact ⟨0, by omega, HR9n, HS9n⟩
  clear HR9n HS9n
  case round =>
    obtain ⟨z, hz, HR1, HS1⟩ := hrel
    obtain ⟨X, hX⟩ : ∃ X, D ++ List.replicate z (0 : UInt8) = X := ⟨_, rfl⟩
    rw [hX] at HR1
    obtain ⟨a3, c3, rfl, hat, hnl, hc3⟩ := HR1.out.shape
    have hXl : X.length = n + 1 + z := by rw [← hX, List.length_append, HDL.out, List.length_replicate]
    obtain ⟨N, hN⟩ : ∃ N, X.length = N := ⟨_, rfl⟩
    rw [hN]
    rw [hN] at HR1 hc3 hXl
    by_cases hlt : z < T
    · have h56 : ¬ (N % 64 = 56) := by rw [hXl]; exact HT1.out.2.2 z hlt
      have d1 : decide ((N : Int) % 64 = 56) = false := by rw [decide_eq_false_iff_not]; omega
      have d2 : ¬ ((N : Int) % 64 = 56) := by omega
      have HNX : Hid (X ++ [0] = D ++ List.replicate (z + 1) 0) := Lib.hid (by rw [← hX, List.replicate_succ', List.append_assoc])
      have hB1 := HS1.out.size
      have HNN := Lib.hid hN
      have hNm : N + 1 ≤ 140737488355328 := by have := HT1.out.1; omega
      clear hX hat hnl hc3 h56 hN
      go_wp2_with ((with_reducible show wpList _ _ _ (⟨some 16, _, _, _, _, _⟩ :: _) _ _); refine wpList_row_one rfl _ _ rfl w.heap.size _ X rfl HR1.out 0 _ rfl rfl (by rw [HNN.out]; exact hNm) hB1 ?_; intro v9 w9 hr9 hs9; have HR9 := Lib.hid hr9; have HS9 := Lib.hid hs9; clear hr9 hs9)
      go_roundw
      case rel =>
        refine ⟨z + 1, by omega, by rw [← HNX.out]; exact HR9, Lib.hid ((HS1.out.trans' HS9.out (fun b hb => .inr hb)))⟩
      case measure =>
        obtain ⟨a4, c4, rfl, _⟩ := HR9.out.shape
        simp [lenV, HNN.out]
        omega
    · obtain rfl : z = T := by omega
      have d2 : (N : Int) % 64 = 56 := by have := HT1.out.2.1; omega
      have HNX : Hid (X = l ++ [128] ++ List.replicate ((119 - l.length % 64) % 64) 0) := Lib.hid (by rw [← hX, ← HDD.out, ← HN.out, HT.out])
      have k1 : IntKind.u64.wrap (n : Int) = (n : Int) := by rw [IntKind.wrap_u64]; omega
      obtain ⟨M, hM⟩ : ∃ M, n * 8 = M := ⟨_, rfl⟩
      have k2 : IntKind.u64.wrap ((n : Int) * 8) = (M : Int) := by rw [IntKind.wrap_u64]; omega
      have HMM := Lib.hid hM
      have hB1 := HS1.out.size
      have HXL : Hid (X.length = N) := Lib.hid hN
      have d3 : ((N : Int) % 64 != 56) = false := by simp [d2]
      have HNB : Hid (N ≤ 70368744177664 + 65) := Lib.hid (by have := HT1.out.1; omega)
      clear hM hX hat hnl hc3 hXl d2
      go_wp2
      have HR0 : Hid (Row8 w.heap.size wr (Value.slice a3 N c3) (X ++ (lenB n).take 0)) := Lib.hid (by rw [List.take_zero, List.append_nil]; exact HR1.out)
      go_loopw [3, 5] (fun v i wr => ∃ k : Nat, k ≤ 8 ∧ i = .int .i64 (7 - (k : Int)) ∧ Hid (Row8 w.heap.size wr v (X ++ (lenB n).take k)) ∧ Hid (Spares nowhere w wr)) (fun _ i _ => (intOf i + 1).toNat)
      case atStart => exact ⟨0, by omega, rfl, HR0, HS1⟩
      clear HR0 HS1 HR1 hN hB1
      case round =>
        obtain ⟨k, hk, rfl, HR1, HS1⟩ := hrel
        by_cases hlt : k < 8
        · obtain ⟨j, hj⟩ : ∃ j : Nat, 7 - k = j := ⟨_, rfl⟩
          have hji : (7 : Int) - (k : Int) = (j : Int) := by omega
          rw [hji]
          obtain ⟨s, hs⟩ : ∃ s : Nat, 8 * j = s := ⟨_, rfl⟩
          have hsi : (8 : Int) * (j : Int) = (s : Int) := by omega
          have hs0 : s < 64 := by omega
          have hB1 := HS1.out.size
          obtain ⟨x, hx⟩ : ∃ x, UInt8.ofNat (M / 256 ^ j) = x := ⟨_, rfl⟩
          have hbt := byte_shift M j s hs
          rw [hx] at hbt
          have hbw : IntKind.u8.wrap ((M : Int) / 2 ^ s) = (x.toNat : Int) := by rw [← hbt, IntKind.wrap_u8]
          obtain ⟨Y, hY⟩ : ∃ Y, X ++ (lenB n).take k = Y := ⟨_, rfl⟩
          rw [hY] at HR1
          have hYl : Y.length + 1 ≤ 140737488355328 := by rw [← hY, List.length_append, HXL.out, List.length_take, lenB_len]; have := HNB.out; omega
          have HNXT : Hid (X ++ (lenB n).take (k + 1) = Y ++ [x]) := Lib.hid (by rw [lenB_take n k j hlt hj, ← List.append_assoc, hY, HMM.out, hx])
          have HYL := Lib.hid hYl
          have hj2 : (j : Int) - 1 = 7 - ((k + 1 : Nat) : Int) := by omega
          have HJ2 := Lib.hid hj2
          clear hx hY hYl hj hji hs hj2
          go_wp2_with ((with_reducible show wpList _ _ _ (⟨some 32, _, _, _, _, _⟩ :: _) _ _); refine wpList_row_one rfl _ _ rfl w.heap.size _ Y rfl HR1.out x _ rfl rfl HYL.out hB1 ?_; intro v9 w9 hr9 hs9; have HR9 := Lib.hid hr9; have HS9 := Lib.hid hs9; clear hr9 hs9)
          go_roundw
          case rel =>
            exact ⟨k + 1, by omega, by rw [HJ2.out], by rw [HNXT.out]; exact HR9, Lib.hid (HS1.out.trans' HS9.out (fun b hb => .inr hb))⟩
          case measure => simp [intOf]
        · obtain rfl : k = 8 := by omega
          have HRF : Hid (Row8 w.heap.size wr u3 (padS l)) := Lib.hid (by
            have := HR1.out
            rw [List.take_of_length_le (by rw [lenB_len]; omega), HNX.out, HN.out] at this
            exact this)
          go_wp2
          go_ret
          exact ⟨_, rfl, HRF.out, HS1.out⟩
end Go.Proofs.YtgfinhkplijhbaaGreatDoor
namespace Go.Proofs.YtgfinhkplijhbaaGreatDoor
open Go.RowKit

/-- append(v, x...) of a string, as one step of a region that draws its order. -/
theorem step_row_str {ops : Array Oper} {o : Oper} {a : Act} {w : World} {K : Act → World → Prop} {Q : Exit → Act → World → Prop} {E : Prop} (hgd : o.guard = none) (s x : Operand)
    (ho : o.op = .call { callee := .builtin .append, args := #[s, x], argTypes := #[23, 9] })
    (B : Nat) (v : Value) (d : List UInt8) (hs : a.eval s = v) (hown : Row8 B w v d)
    (t : ByteArray) (hx : a.eval x = .string t) (hlen : d.length + t.size ≤ 140737488355328) (hB : B ≤ w.heap.size)
    (hK : ∀ v' w', Row8 B w' v' (d ++ t.data.toList) → Spares (atLeast B) w w' → K (a.put o.dst v') w') : if Region.wanted o (yielded ops a.tmps) = true then Oper.wp Tryz.prog o a w K Q else E := by
  have hw : Region.wanted o (yielded ops a.tmps) = true := by simp [Region.wanted, hgd]
  rw [if_pos hw]
  obtain ⟨i0, hi, hz0, hz1, hz2⟩ := info_parts byteInfo
  obtain ⟨v', w', hr, h1, h2, _⟩ := Lib.run_append_own_string (P := Tryz.prog) w B 23 9 o.type 5 i0 Tryz.underlying23 Tryz.underlying9 hi hz0 hz1 hz2 v d.length (Lib.byteCells d) hown t (by unfold maxLen; omega) (by omega) hB
  unfold Oper.wp
  simp [execOp, ho, resolve, invoke, builtin, hs, hx, hr, Result.andThen]
  refine hK v' w' ?_ (row8_grown hown h2)
  unfold Row8
  rw [List.length_append, byteCells_app]
  have e : t.data.toList.length = t.size := by rw [Array.length_toList]; rfl
  rw [e]
  exact h1
def beN (k M : Nat) : List UInt8 := (List.range k).map fun i => UInt8.ofNat (M / 256 ^ (k - 1 - i))
theorem beN_len (k M : Nat) : (beN k M).length = k := by simp [beN]
theorem beN_take (k M j i : Nat) (hj : j < k) (hi : k - 1 - j = i) : (beN k M).take (j + 1) = (beN k M).take j ++ [UInt8.ofNat (M / 256 ^ i)] := by
  rw [List.take_add_one, List.getElem?_eq_getElem (by rw [beN_len]; exact hj), ← hi]
  simp [beN]
set_option maxRecDepth 100000 in
set_option maxHeartbeats 1000000 in
theorem put_any (B : Nat) (v : Value) (d : List UInt8) (M k : Nat) (w : World) (hr : Row8 B w v d) (hB : B ≤ w.heap.size) (hk : k ≤ 8) (hd : d.length + k ≤ 140737488355328) :
    Calls Tryz.prog 67 #[v, .int .u64 M, .int .i64 k] w fun e w' => ∃ v', e = .returned v' ∧ Row8 B w' v' (d ++ beN k M) ∧ Spares (atLeast B) w w' := by
  have HR := Lib.hid hr
  have HD := Lib.hid hd
  clear hr hd
  have HR0 : Hid (Row8 B w v (d ++ (beN k M).take 0)) := Lib.hid (by rw [List.take_zero, List.append_nil]; exact HR.out)
  go_enter Tryz.func67, Tryz.ntmps67
  go_wp2
  go_loopw [0, 7] (fun v i wr => ∃ j : Nat, j ≤ k ∧ i = .int .i64 ((k : Int) - 1 - (j : Int)) ∧ Hid (Row8 B wr v (d ++ (beN k M).take j)) ∧ Hid (Spares (atLeast B) w wr)) (fun _ i _ => (intOf i + 1).toNat)
  case atStart => exact ⟨0, by omega, by simp, HR0, Lib.hid (Spares.refl _ _)⟩
  clear HR0 HR
  case round =>
    obtain ⟨j, hj, rfl, HR1, HS1⟩ := hrel
    by_cases hlt : j < k
    · obtain ⟨i, hi⟩ : ∃ i : Nat, k - 1 - j = i := ⟨_, rfl⟩
      have hii : (k : Int) - 1 - (j : Int) = (i : Int) := by omega
      rw [hii]
      obtain ⟨s, hs⟩ : ∃ s : Nat, 8 * i = s := ⟨_, rfl⟩
      have hsi : (8 : Int) * (i : Int) = (s : Int) := by omega
      have hs0 : s < 64 := by omega
      have hB1 := Nat.le_trans hB HS1.out.size
      obtain ⟨x, hx⟩ : ∃ x, UInt8.ofNat (M / 256 ^ i) = x := ⟨_, rfl⟩
      have hbt := byte_shift M i s hs
      rw [hx] at hbt
      have hbw : IntKind.u8.wrap ((M : Int) / 2 ^ s) = (x.toNat : Int) := by rw [← hbt, IntKind.wrap_u8]
      obtain ⟨Y, hY⟩ : ∃ Y, d ++ (beN k M).take j = Y := ⟨_, rfl⟩
      rw [hY] at HR1
      have hYl : Y.length + 1 ≤ 140737488355328 := by rw [← hY, List.length_append, List.length_take, beN_len]; have := HD.out; omega
      have HNXT : Hid (d ++ (beN k M).take (j + 1) = Y ++ [x]) := Lib.hid (by rw [beN_take k M j i hlt hi, ← List.append_assoc, hY, hx])
      have HYL := Lib.hid hYl
      have hj2 : (i : Int) - 1 = (k : Int) - 1 - ((j + 1 : Nat) : Int) := by omega
      have HJ2 := Lib.hid hj2
      clear hx hY hYl hi hii hs hj2
      go_wp2_with ((with_reducible show wpList _ _ _ (⟨some 21, _, _, _, _, _⟩ :: _) _ _); refine wpList_row_one rfl _ _ rfl B _ Y rfl HR1.out x _ rfl rfl HYL.out hB1 ?_; intro v9 w9 hr9 hs9; have HR9 := Lib.hid hr9; have HS9 := Lib.hid hs9; clear hr9 hs9)
      go_roundw
      case rel =>
        exact ⟨j + 1, by omega, by rw [HJ2.out], by rw [HNXT.out]; exact HR9, Lib.hid (HS1.out.trans HS9.out)⟩
      case measure => simp [intOf]
    · obtain rfl : j = k := by omega
      have e1 : (j : Int) - 1 - (j : Int) = -1 := by omega
      rw [e1]
      have HRF : Hid (Row8 B wr u0 (d ++ beN j M)) := Lib.hid (by
        have := HR1.out
        rw [List.take_of_length_le (by rw [beN_len]; omega)] at this
        exact this)
      go_wp2
      go_ret
      exact ⟨_, rfl, HRF.out, HS1.out⟩
theorem beN_four (z : Nat) : beN 4 z = [UInt8.ofNat (z / 256 ^ 3), UInt8.ofNat (z / 256 ^ 2), UInt8.ofNat (z / 256 ^ 1), UInt8.ofNat (z / 256 ^ 0)] := rfl
end Go.Proofs.YtgfinhkplijhbaaGreatDoor
namespace Go.Proofs.YtgfinhkplijhbaaGreatDoor
open Go.RowKit

theorem mapM_some {α β : Type} (f : α → Option β) (g : α → β) : ∀ l : List α, (∀ i ∈ l, f i = some (g i)) → l.mapM f = some (l.map g)
  | [], _ => rfl
  | x :: l, h => by
    rw [List.mapM_cons, h x (List.mem_cons_self ..), mapM_some f g l (fun i hi => h i (List.mem_cons_of_mem _ hi))]
    rfl
theorem flatten_ones {α β : Type} (h : α → β) : ∀ l : List α, (l.map fun i => [h i]).flatten = l.map h
  | [] => rfl
  | x :: l => by rw [List.map_cons, List.flatten_cons, flatten_ones h l]; rfl
theorem byte_lits (x : UInt8) : Tryz.prog.keyLits 1 5 [.int .u8 x.toNat] = some [.int .u8 x.toNat] := by
  have hx := x.toNat_lt
  have hw : (Lit.int .u8 (x.toNat : Int)).wf = true := by
    simp [Lit.wf]
    have e1 : IntKind.u8.min = 0 := by decide
    have e2 : IntKind.u8.max = 255 := by decide
    rw [e1, e2]
    omega
  unfold Program.keyLits
  rw [Tryz.underlying5]
  simp [hw]
theorem cells_one : Tryz.prog.cellsOf 5 = 1 ∧ Tryz.prog.cellsOf 41 = 32 := ⟨by kernel_rfl, by kernel_rfl⟩
theorem key_lits (X : List UInt8) (h : X.length = 32) : Tryz.prog.keyLits 2 41 (Lib.byteCells X) = some ((List.range 32).map fun i => Lit.int .u8 (X.getD i 0).toNat) := by
  unfold Program.keyLits
  rw [Tryz.underlying41]
  simp only [cells_one.1, cells_one.2, byteCells_len, h, if_true, Nat.mul_one]
  rw [mapM_some _ (fun i => [Lit.int .u8 (X.getD i 0).toNat]), Option.map_some, flatten_ones]
  intro i hi
  have hi : i < X.length := by rw [h]; simpa using hi
  have e : ((Lib.byteCells X).drop i).take 1 = [.int .u8 (X.getD i 0).toNat] := by
    unfold Lib.byteCells
    rw [List.drop_eq_getElem_cons (by simpa using hi)]
    simp [List.getElem?_eq_getElem hi]
  rw [e]
  exact byte_lits _
set_option maxRecDepth 100000 in
theorem key_equal (X Y : List UInt8) (hX : X.length = 32) (hY : Y.length = 32) (w : World) : (Op.equalIn 10000 41 (.agg (bytesV X)) (.agg (bytesV Y))).run Tryz.prog w = .ok (decide (X = Y)) w := by
  have form : ∀ Z : List UInt8, Z.length = 32 → (Value.agg (bytesV Z)).formed Tryz.prog 41 = true := fun Z hZ => by
    unfold Value.formed
    rw [Tryz.underlying41]
    simp [cells_one.2, bytesV_size, hZ]
  obtain ⟨r, hr, hiff⟩ := run_equalIn_deep (P := Tryz.prog) 9998 2 41 (by kernel_rfl) w 2 2 _ _ _ _ (form X hX) (form Y hY) (key_lits X hX) (key_lits Y hY)
  rw [hr]
  have hq : r = true ↔ X = Y := by
    rw [hiff]
    constructor
    · intro he
      apply List.ext_getElem (by omega)
      intro i h1 h2
      have := congrArg (fun l => l[i]?) he
      simp only [List.getElem?_map] at this
      rw [List.getElem?_range (by omega)] at this
      simp at this
      rw [List.getElem?_eq_getElem h1, List.getElem?_eq_getElem h2] at this
      have h5 : ((X[i]).toNat : Int) = ((Y[i]).toNat : Int) := by simpa using this
      have h3 : (X[i]).toNat = (Y[i]).toNat := by omega
      exact UInt8.toNat_inj.1 h3
    · rintro rfl; rfl
  congr 1
  by_cases h : X = Y
  · rw [hq.2 h, decide_eq_true h]
  · rw [decide_eq_false h]
    cases r with
    | true => exact absurd (hq.1 rfl) h
    | false => rfl
end Go.Proofs.YtgfinhkplijhbaaGreatDoor
