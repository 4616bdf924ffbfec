/-
  formatBits at base 16.
-/
import Derived.Test.YtkfnebpooohflaaDoorChunkHex
namespace Go.Proofs.YtkfnebpooohflaaDoor
open Go.RowKit HeadMath NormMath NormS ChunkMath

theorem and15 (u : Nat) (h : u < 4294967296) : Go.bits .and .u64 (u : Int) 15 = ((u % 16 : Nat) : Int) := by
  rw [show (15 : Int) = ((15 : Nat) : Int) from rfl, u64_and_nat _ _ (by omega) (by omega)]
  congr 1
  exact Nat.and_two_pow_sub_one_eq_mod u 4
def FormPost (B n : Nat) (d : Bs) (w : World) (e : Ending) (w' : World) : Prop := ∃ v, e = .returned (.tuple #[v, .string ⟨#[]⟩]) ∧ Row8 B w' v (d ++ hexT n) ∧ Spares (atLeast B) w w'
def digitsB : ByteArray := ⟨#[48, 49, 50, 51, 52, 53, 54, 55, 56, 57, 97, 98, 99, 100, 101, 102, 103, 104, 105, 106, 107, 108, 109, 110, 111, 112, 113, 114, 115, 116, 117, 118, 119, 120, 121, 122]⟩
theorem hexLit (k : Nat) (hk : k < 16) (h : k < digitsB.size) : digitsB[k]'h = hexD k := by
  have H : ∀ k : Fin 16, digitsB[k.val]'(Nat.lt_of_lt_of_le k.isLt (by decide)) = hexD k.val := by decide
  exact H ⟨k, hk⟩
theorem HexAt.digit {n q i u k : Nat} {S : Bs} {w w' : World} (h : HexAt n q (i + 1) u S w w') (hq : w.heap.size ≤ q) (hk : k < 16) (hz : k < digitsB.size) : (w'.setCell ⟨q, i, none⟩ (.int .u8 (digitsB[k]'hz).toNat)).heap[q]? = some (.cells (bytesV (List.replicate i 0 ++ hexD k :: S)) 94 (0, 0)) ∧ Spares nowhere w (w'.setCell ⟨q, i, none⟩ (.int .u8 (digitsB[k]'hz).toNat)) := by
  rw [hexLit k hk]
  exact h.put hq _
theorem slice65 (q j : Nat) (h : j < 65) (w : World) : (Instr.sliceAt 94 (.pointer (some ⟨q, 0, none⟩)) (some (.int .i64 (j : Int))) none none).run Tryd.prog w = .ok (.slice (some ⟨q, j, none⟩) (65 - j) (65 - j)) w := by
  have hl : Tryd.prog.arrayLen 94 = 65 := by kernel_rfl
  have hs : (sizeOf (Tryd.prog.elem 94)).run Tryd.prog w = .ok 1 w := by kernel_rfl
  have hu : Tryd.prog.underlying 94 = some (.array (Tryd.prog.arrayLen 94) (Tryd.prog.elem 94)) := by kernel_rfl
  have := run_sliceAt_array_l w 94 ⟨q, 0, none⟩ hu .i64 (j : Int) (Int.natCast_nonneg _) (by rw [hl]; exact Int.ofNat_le.2 (Nat.le_of_lt h))
  rw [this, hl, hs]
  simp only [Result.andThen_ok, slicedAt, Int.toNat_natCast, Nat.mul_one]
  rw [if_neg (by omega), Addr.add_lit, Nat.zero_add]
theorem bytesAt_drop8 {w : World} {x o : Nat} {b : Bs} (h : BytesAt w (some ⟨x, o, none⟩) b) (k : Nat) : BytesAt w (some ⟨x, o + k, none⟩) (b.drop k) := by
  intro j hj
  have hj2 : k + j < b.length := by simp at hj; omega
  obtain ⟨y, z, e, hc⟩ := h (k + j) hj2
  injection e with e
  injection e with e1 e2
  subst e1; subst e2
  refine ⟨x, o + k, rfl, ?_⟩
  rw [Nat.add_assoc, hc]
  simp
theorem zeros65 : Tryd.zeroCells94 = bytesV (List.replicate 65 0) := by kernel_rfl
set_option maxRecDepth 100000 in
set_option maxHeartbeats 4000000 in
theorem format_any (B n : Nat) (d : Bs) (v : Value) (w : World) (hn : n < 4294967296) (hd : Row8 B w v d) (hB : B ≤ w.heap.size) (hdl : d.length ≤ 1000000000) (hT : TabZ w) : Calls Tryd.prog 50 #[v, .int .u64 n, .int .i64 16, .bool false, .bool true] w (FormPost B n d w) := by
  obtain ⟨a, c, rfl, _⟩ := hd.shape
  have HD := Lib.hid hd
  obtain ⟨v1, hv1⟩ : ∃ v1, w.alloc (.cells Tryd.zeroCells94 94) = v1 := ⟨_, rfl⟩
  have hs1 : Spares nowhere w v1 := by rw [← hv1]; exact (Spares.refl _ _).alloc _
  have hq1 : v1.heap[w.heap.size]? = some (.cells (bytesV (List.replicate 65 0)) 94 (0, 0)) := by rw [← hv1, ← zeros65]; exact heap_alloc_new w _
  have HT1 := Lib.hid (hT.spares hs1)
  have H1 : Hid (HexAt n w.heap.size 65 n [] w v1) := Lib.hid ⟨by rw [List.append_nil], rfl, by rw [List.append_nil]; exact hq1, hs1⟩
  have hlen := hexT_len 7 n (by rw [show (16 : Nat) ^ (7 + 1) = 4294967296 from by decide]; exact hn)
  have HLN := Lib.hid hlen
  have HV1 := Lib.hid hv1
  clear hd hT hv1 hs1 hq1 hlen
  go_enter Tryd.func50, Tryd.ntmps50
  go_wp2_with fail
  change Calls _ _ _ (w.alloc (.cells Tryd.zeroCells94 94)) _
  rw [HV1.out]
  refine (power v1).mono ?_
  rintro e w1 ⟨rfl, hw⟩
  replace hw := hw.symm
  subst hw
  go_wp2_with fail
  refine (tz _ HT1.out).mono ?_
  rintro e w1 ⟨rfl, hw⟩
  replace hw := hw.symm
  subst hw
  have k1 : IntKind.u64.wrap ((16 : Int) - 1) = 15 := by decide
  go_wp2
  go_loopw [1, 13] (fun u i wr => ∃ (u' i' : Nat) (S : Bs), u' < 4294967296 ∧ u = .int .u64 u' ∧ i = .int .i64 i' ∧ i' ≤ 65 ∧ Hid (HexAt n w.heap.size i' u' S w wr)) (fun u _ _ => (intOf u).toNat)
  case atStart => exact ⟨n, 65, [], hn, rfl, rfl, Nat.le_refl _, H1⟩
  case round =>
    obtain ⟨u, i, S, hu, rfl, rfl, hi, HX⟩ := hrel
    by_cases h16 : 16 ≤ u
    · have l1 : (16 : Int) ≤ (u : Int) := by omega
      have hi1 : 1 ≤ i := by
        have h1 := hexT_pos u
        have h2 := HLN.out
        rw [HX.out.1, List.length_append] at h2
        have h3 := HX.out.2.1
        omega
      obtain ⟨j, rfl⟩ : ∃ j, i = j + 1 := ⟨i - 1, by omega⟩
      have q0 := and15 u hu
      have hjw : ((j + 1 : Nat) : Int) - 1 = (j : Int) := by omega
      have c0 : wr.cell? ⟨w.heap.size, j, none⟩ = some (.int .u8 0) := by
        rw [Lib.cell_of_heap HX.out.2.2.1, bytesV_get _ _ (by rw [List.length_append, List.length_replicate]; omega), List.getD_eq_getElem?_getD, List.getElem?_append_left (by rw [List.length_replicate]; omega), List.getElem?_replicate, if_pos (by omega)]
        rfl
      have hfz : wr.frozen? ⟨w.heap.size, j, none⟩ = false := heap_frozen HX.out.2.2.1 j
      go_wp2
      go_roundw
      case rel =>
        obtain ⟨p1, p2⟩ := HX.out.digit (Nat.le_refl _) (Nat.mod_lt u (by decide : 0 < 16)) (Nat.lt_of_lt_of_le (Nat.mod_lt u (by decide : 0 < 16)) (by decide))
        exact ⟨u / 16, j, hexD (u % 16) :: S, by omega, by go_num, rfl, by omega, Lib.hid ⟨by rw [HX.out.1, hexT_more (by omega), List.append_assoc]; rfl, by have := HX.out.2.1; simp; omega, p1, p2⟩⟩
      case measure => simp [intOf]; omega
    · have l1 : ¬ ((16 : Int) ≤ (u : Int)) := by omega
      have hi1 : 1 ≤ i := by
        have h1 := hexT_pos u
        have h2 := HLN.out
        rw [HX.out.1, List.length_append] at h2
        have h3 := HX.out.2.1
        omega
      obtain ⟨j, rfl⟩ : ∃ j, i = j + 1 := ⟨i - 1, by omega⟩
      have hjw : ((j + 1 : Nat) : Int) - 1 = (j : Int) := by omega
      have c0 : wr.cell? ⟨w.heap.size, j, none⟩ = some (.int .u8 0) := by
        rw [Lib.cell_of_heap HX.out.2.2.1, bytesV_get _ _ (by rw [List.length_append, List.length_replicate]; omega), List.getD_eq_getElem?_getD, List.getElem?_append_left (by rw [List.length_replicate]; omega), List.getElem?_replicate, if_pos (by omega)]
        rfl
      have hfz : wr.frozen? ⟨w.heap.size, j, none⟩ = false := heap_frozen HX.out.2.2.1 j
      have hu36 : (u : Int) < 36 := by omega
      obtain ⟨p1, p2⟩ := HX.out.digit (Nat.le_refl _) (by omega : u < 16) (Nat.lt_of_lt_of_le (by omega : u < 16) (by decide))
      have HP1 := Lib.hid p1
      have HP2 := Lib.hid p2
      have HE : Hid (hexT n = hexD u :: S) := Lib.hid (by rw [HX.out.1, hexT_one (by omega)]; rfl)
      have HSL : Hid (j + (hexD u :: S).length = 65) := Lib.hid (by have := HX.out.2.1; simp; omega)
      have hsl := fun W : World => slice65 w.heap.size j (by omega) W
      have hat : BytesAt (wr.setCell ⟨w.heap.size, j, none⟩ (.int .u8 (digitsB[u]'(Nat.lt_of_lt_of_le (by omega : u < 16) (by decide))).toNat)) (some ⟨w.heap.size, j, none⟩) (hexT n) := by
        have h1 := bytesAt_drop8 (bytesV_at HP1.out) j
        rw [List.drop_left' (by simp), ← HE.out, Nat.zero_add] at h1
        exact h1
      have HAT := Lib.hid hat
      have HROW := Lib.hid (HD.out.spares HP2.out (fun _ _ h => h))
      have HSZ : Hid (65 - j = (hexT n).length) := Lib.hid (by rw [HE.out]; have := HSL.out; omega)
      have HBB : Hid (d.length + (65 - j) ≤ 140737488355328) := Lib.hid (by omega)
      have HBS : Hid (B ≤ (wr.setCell ⟨w.heap.size, j, none⟩ (.int .u8 (digitsB[u]'(Nat.lt_of_lt_of_le (by omega : u < 16) (by decide))).toNat)).heap.size) := Lib.hid (Nat.le_trans hB HP2.out.size)
      clear p1 p2 hat
      go_wp2_with (at_builtin; refine wpList_row_bytes rfl _ _ rfl B _ d rfl HROW.out (some ⟨w.heap.size, j, none⟩) (65 - j) (65 - j) (hexT n) rfl HSZ.out HAT.out (fun e => by cases e) HBB.out HBS.out ?_; intro v9 w9 hr9 hs9; have HR9 := Lib.hid hr9; have HS9 := Lib.hid hs9; clear hr9 hs9)
      go_ret2
      exact ⟨_, rfl, HR9.out, (HP2.out.mono (fun _ h => by cases h)).trans HS9.out⟩
end Go.Proofs.YtkfnebpooohflaaDoor
