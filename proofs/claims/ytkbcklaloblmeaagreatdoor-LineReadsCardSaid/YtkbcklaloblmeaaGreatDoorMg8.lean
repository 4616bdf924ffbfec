/-
  strconv.FormatInt at base 16.
-/
import Derived.Deep.DeepLaidRun
import Derived.Test.YtkbcklaloblmeaaGreatDoorMg1
import Derived.Test.YtkbcklaloblmeaaGreatDoorMg7
namespace Go.Proofs.YtkbcklaloblmeaaGreatDoor
open Go.RowKit HeadMath NormMath NormS ChunkMath ChunkS

def FormSPost (n : Nat) (w : World) (e : Ending) (w' : World) : Prop := e = .returned (.tuple #[.slice none 0 0, .string ⟨(hexT n).toArray⟩]) ∧ Below w.heap.size w w'
set_option maxRecDepth 100000 in
set_option maxHeartbeats 4000000 in
theorem formatS_any (n : Nat) (w : World) (hn : n < 4294967296) (hT : TabZ w) : Calls Tryz.prog 91 #[.slice none 0 0, .int .u64 n, .int .i64 16, .bool false, .bool false] w (FormSPost n w) := by
  obtain ⟨v1, hv1⟩ : ∃ v1, w.alloc (.cells Tryz.zeroCells149 149) = v1 := ⟨_, rfl⟩
  have hs1 : Spares nowhere w v1 := by rw [← hv1]; exact (Spares.refl _ _).alloc _
  have hq1 : v1.heap[w.heap.size]? = some (.cells (bytesV (List.replicate 65 0)) 149 (0, 0)) := by rw [← hv1, ← zeros65]; exact heap_alloc_new w _
  have HT1 := Lib.hid (hT.spares hs1)
  have H1 : Hid (HexAt n w.heap.size 65 n [] w v1) := Lib.hid ⟨by rw [List.append_nil], rfl, by rw [List.append_nil]; exact hq1, hs1⟩
  have hlen := hexT_len 7 n (by rw [show (16 : Nat) ^ (7 + 1) = 4294967296 from by decide]; exact hn)
  have HLN := Lib.hid hlen
  have HV1 := Lib.hid hv1
  clear hT hv1 hs1 hq1 hlen
  unfold FormSPost
  go_enter Tryz.func91, Tryz.ntmps91
  go_wp2_with fail
  change Calls _ _ _ (w.alloc (.cells Tryz.zeroCells149 149)) _
  rw [HV1.out]
  refine (power v1).mono ?_
  rintro e w1 ⟨rfl, hw⟩
  replace hw := hw.symm
  subst hw
  go_wp2_with fail
  refine (tz _ HT1.out).mono ?_
  rintro e w1 ⟨rfl, hw⟩
  replace hw := hw.symm
  subst hw
  have k1 : IntKind.u64.wrap ((16 : Int) - 1) = 15 := by decide
  go_wp2
  go_loopw [1, 13] (fun u i wr => ∃ (u' i' : Nat) (S : Bs), u' < 4294967296 ∧ u = .int .u64 u' ∧ i = .int .i64 i' ∧ i' ≤ 65 ∧ Hid (HexAt n w.heap.size i' u' S w wr)) (fun u _ _ => (intOf u).toNat)
  case atStart => exact ⟨n, 65, [], hn, rfl, rfl, Nat.le_refl _, H1⟩
  case round =>
    obtain ⟨u, i, S, hu, rfl, rfl, hi, HX⟩ := hrel
    by_cases h16 : 16 ≤ u
    · have l1 : (16 : Int) ≤ (u : Int) := by omega
      have hi1 : 1 ≤ i := by
        have h1 := hexT_pos u
        have h2 := HLN.out
        rw [HX.out.1, List.length_append] at h2
        have h3 := HX.out.2.1
        omega
      obtain ⟨j, rfl⟩ : ∃ j, i = j + 1 := ⟨i - 1, by omega⟩
      have q0 := and15 u hu
      have hjw : ((j + 1 : Nat) : Int) - 1 = (j : Int) := by omega
      have c0 : wr.cell? ⟨w.heap.size, j, none⟩ = some (.int .u8 0) := by
        rw [Lib.cell_of_heap HX.out.2.2.1, bytesV_get _ _ (by rw [List.length_append, List.length_replicate]; omega), List.getD_eq_getElem?_getD, List.getElem?_append_left (by rw [List.length_replicate]; omega), List.getElem?_replicate, if_pos (by omega)]
        rfl
      have hfz : wr.frozen? ⟨w.heap.size, j, none⟩ = false := heap_frozen HX.out.2.2.1 j
      go_wp2
      go_roundw
      case rel =>
        obtain ⟨p1, p2⟩ := HX.out.digit (Nat.le_refl _) (Nat.mod_lt u (by decide : 0 < 16)) (Nat.lt_of_lt_of_le (Nat.mod_lt u (by decide : 0 < 16)) (by decide))
        exact ⟨u / 16, j, hexD (u % 16) :: S, by omega, by go_num, rfl, by omega, Lib.hid ⟨by rw [HX.out.1, hexT_more (by omega), List.append_assoc]; rfl, by have := HX.out.2.1; simp; omega, p1, p2⟩⟩
      case measure => simp [intOf]; omega
    · have l1 : ¬ ((16 : Int) ≤ (u : Int)) := by omega
      have hi1 : 1 ≤ i := by
        have h1 := hexT_pos u
        have h2 := HLN.out
        rw [HX.out.1, List.length_append] at h2
        have h3 := HX.out.2.1
        omega
      obtain ⟨j, rfl⟩ : ∃ j, i = j + 1 := ⟨i - 1, by omega⟩
      have hjw : ((j + 1 : Nat) : Int) - 1 = (j : Int) := by omega
      have c0 : wr.cell? ⟨w.heap.size, j, none⟩ = some (.int .u8 0) := by
        rw [Lib.cell_of_heap HX.out.2.2.1, bytesV_get _ _ (by rw [List.length_append, List.length_replicate]; omega), List.getD_eq_getElem?_getD, List.getElem?_append_left (by rw [List.length_replicate]; omega), List.getElem?_replicate, if_pos (by omega)]
        rfl
      have hfz : wr.frozen? ⟨w.heap.size, j, none⟩ = false := heap_frozen HX.out.2.2.1 j
      have hu36 : (u : Int) < 36 := by omega
      obtain ⟨p1, p2⟩ := HX.out.digit (Nat.le_refl _) (by omega : u < 16) (Nat.lt_of_lt_of_le (by omega : u < 16) (by decide))
      have HP1 := Lib.hid p1
      have HP2 := Lib.hid p2
      have HE : Hid (hexT n = hexD u :: S) := Lib.hid (by rw [HX.out.1, hexT_one (by omega)]; rfl)
      have HSL : Hid (j + (hexD u :: S).length = 65) := Lib.hid (by have := HX.out.2.1; simp; omega)
      have hsl := fun W : World => slice65 w.heap.size j (by omega) W
      have hat : BytesAt (wr.setCell ⟨w.heap.size, j, none⟩ (.int .u8 (digitsB[u]'(Nat.lt_of_lt_of_le (by omega : u < 16) (by decide))).toNat)) (some ⟨w.heap.size, j, none⟩) (hexT n) := by
        have h1 := bytesAt_drop8 (bytesV_at HP1.out) j
        rw [List.drop_left' (by simp), ← HE.out, Nat.zero_add] at h1
        exact h1
      have hcv := conv_bytes hat (65 - j)
      rw [show (hexT n).length = 65 - j by rw [HE.out]; have := HSL.out; omega] at hcv
      unfold digitsB at hcv
      have HBL : Hid (Below w.heap.size w (wr.setCell ⟨w.heap.size, j, none⟩ (.int .u8 (digitsB[u]'(Nat.lt_of_lt_of_le (by omega : u < 16) (by decide))).toNat))) := Lib.hid HP2.out.below0
      clear p1 p2 hat
      go_wp2
      go_ret2
      exact ⟨rfl, HBL.out⟩
theorem or256 (c : Nat) (h : c < 256) : Go.bits .or .i64 (c : Int) 256 = ((256 + c : Nat) : Int) := by
  have H : ∀ c : Fin 256, Go.bits .or .i64 ((c.val : Nat) : Int) 256 = ((256 + c.val : Nat) : Int) := by decide +kernel
  exact H ⟨c, h⟩
theorem hexT_256 (c : Nat) (h : c < 256) : hexT (256 + c) = [49, LineMath.hexD (c / 16), LineMath.hexD (c % 16)] := by
  rw [hexT_more (by omega), hexT_more (by omega), hexT_one (by omega)]
  have e1 : (256 + c) / 16 / 16 = 1 := by omega
  have e2 : (256 + c) / 16 % 16 = c / 16 := by omega
  have e3 : (256 + c) % 16 = c % 16 := by omega
  rw [e1, e2, e3]
  rfl
set_option maxRecDepth 100000 in
set_option maxHeartbeats 4000000 in
theorem fmtI_any (n : Nat) (w : World) (hn : n < 4294967296) (hT : TabZ w) : Calls Tryz.prog 68 #[.int .i64 n, .int .i64 16] w fun e w' => e = .returned (.string ⟨(hexT n).toArray⟩) ∧ Below w.heap.size w w' := by
  have c := formatS_any n w hn hT
  unfold FormSPost at c
  have h0 : decide ((n : Int) < 0) = false := by simp
  clear hT
  go_enter Tryz.func68, Tryz.ntmps68
  go_wp2_with fail
  refine c.mono ?_
  rintro e w1 ⟨rfl, hb⟩
  go_wp2
  go_ret
  exact ⟨rfl, hb⟩
set_option maxHeartbeats 4000000 in
theorem fmt_any (n : Nat) (w : World) (hn : n < 4294967296) (hT : TabZ w) : Calls Tryz.prog 38 #[.int .i64 n, .int .i64 16] w fun e w' => e = .returned (.string ⟨(hexT n).toArray⟩) ∧ Below w.heap.size w w' := by
  have c := fmtI_any n w hn hT
  clear hT
  go_enter Tryz.func38, Tryz.ntmps38
  go_wp2_with fail
  refine c.mono ?_
  rintro e w1 ⟨rfl, hb⟩
  go_wp2
  go_ret
  exact ⟨rfl, hb⟩
end Go.Proofs.YtkbcklaloblmeaaGreatDoor
