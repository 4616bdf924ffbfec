/-
  A number's hexadecimal digits, appended to bytes (strconv.AppendInt at base 16).
  formatBits at base 16.
-/
import Derived.LoopTactic
import Derived.Laws.BitsAllLaws
import Derived.IntWalk
import Derived.WalkSpells
import Derived.Test.YtkbcklaloblmeaaGreatDoorMg1
import Derived.Test.YtkbcklaloblmeaaGreatDoorMg4
import Derived.Test.YtkbcklaloblmeaaGreatDoorMg6
namespace Go.Proofs.YtkbcklaloblmeaaGreatDoor.ChunkS
open NormS
open Go.RowKit HeadMath NormMath NormS ChunkMath

def hexD (k : Nat) : UInt8 := if k < 10 then UInt8.ofNat (48 + k) else UInt8.ofNat (87 + k)
def hexT (n : Nat) : Bs := if _h : n < 16 then [hexD n] else hexT (n / 16) ++ [hexD (n % 16)]
theorem hexT_one {n : Nat} (h : n < 16) : hexT n = [hexD n] := by rw [hexT, dif_pos h]
theorem hexT_more {n : Nat} (h : ¬ n < 16) : hexT n = hexT (n / 16) ++ [hexD (n % 16)] := by rw [hexT, dif_neg h]
theorem hexT_len : ∀ (k n : Nat), n < 16 ^ (k + 1) → (hexT n).length ≤ k + 1
  | 0, n, h => by rw [hexT_one (by simpa using h)]; simp
  | k + 1, n, h => by
    by_cases h16 : n < 16
    · rw [hexT_one h16]; simp
    · rw [hexT_more h16, List.length_append]
      have := hexT_len k (n / 16) (by rw [Nat.pow_succ] at h; omega)
      simp; omega
theorem hexT_pos (n : Nat) : 1 ≤ (hexT n).length := by
  by_cases h : n < 16
  · rw [hexT_one h]; simp
  · rw [hexT_more h, List.length_append]; simp
/-- The library's table of the numbers of trailing zeros, where it is read. -/
def TabZ (w : World) : Prop := w.cell? ⟨5, 15, none⟩ = some (.int .u8 4)
theorem TabZ.lt {w : World} (h : TabZ w) : 5 < w.heap.size := by
  rcases Nat.lt_or_ge 5 w.heap.size with h' | h'
  · exact h'
  · unfold TabZ World.cell? at h; simp [Array.getElem?_eq_none h'] at h
theorem TabZ.spares {w w' : World} (h : TabZ w) (hs : Spares nowhere w w') : TabZ w' := (hs.cell (p := ⟨5, 15, none⟩) h.lt (fun h => h)).trans h
theorem TabZ.spares2 {w w' : World} (h : TabZ w) (hs : Spares (atLeast w.heap.size) w w') : TabZ w' := (hs.cell (p := ⟨5, 15, none⟩) h.lt (fun h2 => absurd h.lt (Nat.not_lt.2 h2))).trans h
theorem TabZ.below {w w' : World} (h : TabZ w) (hb : Below w.heap.size w w') : TabZ w' := h.spares (Below.spares hb (fun _ hk => .inr hk))
theorem tz64 (w : World) (h : TabZ w) : Calls Tryz.prog 116 #[.int .u64 16] w fun e w' => e = .returned (.int .i64 4) ∧ w' = w := by
  have h' : w.cell? ⟨5, 15, none⟩ = some (.int .u8 4) := h
  have g1 : IntKind.u64.wrap (-16) = 18446744073709551600 := by decide
  have g2 : Go.bits .and .u64 16 18446744073709551600 = 16 := by decide
  have g3 : IntKind.u64.wrap (16 * 285870213051353865) = 4573923408821661840 := by decide
  clear h
  go_enter Tryz.func116, Tryz.ntmps116
  go_wp2
  go_ret
  exact ⟨rfl, rfl⟩
theorem tz (w : World) (h : TabZ w) : Calls Tryz.prog 106 #[.int .u64 16] w fun e w' => e = .returned (.int .i64 4) ∧ w' = w := by
  have c := tz64 w h
  go_enter Tryz.func106, Tryz.ntmps106
  go_wp2_with fail
  refine c.mono ?_
  rintro e w1 ⟨rfl, hw⟩
  replace hw := hw.symm
  subst hw
  go_wp2
  go_ret
  exact ⟨rfl, rfl⟩
theorem power (w : World) : Calls Tryz.prog 105 #[.int .i64 16] w fun e w' => e = .returned (.bool true) ∧ w' = w := by
  go_enter Tryz.func105, Tryz.ntmps105
  go_wp2
  go_ret
  exact ⟨rfl, rfl⟩
/-- Where formatBits stands: i places are free yet, behind them the digits that are there. -/
def HexAt (n q : Nat) (i u : Nat) (S : Bs) (w w' : World) : Prop := hexT n = hexT u ++ S ∧ i + S.length = 65 ∧ w'.heap[q]? = some (.cells (bytesV (List.replicate i 0 ++ S)) 149 (0, 0)) ∧ Spares nowhere w w'
theorem HexAt.put {n q i u : Nat} {S : Bs} {w w' : World} (h : HexAt n q (i + 1) u S w w') (hq : w.heap.size ≤ q) (x : UInt8) : (w'.setCell ⟨q, i, none⟩ (.int .u8 x.toNat)).heap[q]? = some (.cells (bytesV (List.replicate i 0 ++ x :: S)) 149 (0, 0)) ∧ Spares nowhere w (w'.setCell ⟨q, i, none⟩ (.int .u8 x.toNat)) := by
  obtain ⟨_, _, h3, h4⟩ := h
  refine ⟨(heap_set h3 i _).trans ?_, h4.setCell (p := ⟨q, i, none⟩) (.inr hq) _⟩
  have hb := bytesV_set (List.replicate i 0) S 0 x
  rw [List.length_replicate] at hb
  rw [List.replicate_succ', List.append_assoc]
  exact congrArg (fun r => some (Obj.cells r 149 (0, 0))) hb
end Go.Proofs.YtkbcklaloblmeaaGreatDoor.ChunkS
namespace Go.Proofs.YtkbcklaloblmeaaGreatDoor.ChunkS
open NormS
open Go.RowKit HeadMath NormMath NormS ChunkMath

theorem and15 (u : Nat) (h : u < 4294967296) : Go.bits .and .u64 (u : Int) 15 = ((u % 16 : Nat) : Int) := by
  rw [show (15 : Int) = ((15 : Nat) : Int) from rfl, u64_and_nat _ _ (by omega) (by omega)]
  congr 1
  exact Nat.and_two_pow_sub_one_eq_mod u 4
def digitsB : ByteArray := ⟨#[48, 49, 50, 51, 52, 53, 54, 55, 56, 57, 97, 98, 99, 100, 101, 102, 103, 104, 105, 106, 107, 108, 109, 110, 111, 112, 113, 114, 115, 116, 117, 118, 119, 120, 121, 122]⟩
theorem hexLit (k : Nat) (hk : k < 16) (h : k < digitsB.size) : digitsB[k]'h = hexD k := by
  have H : ∀ k : Fin 16, digitsB[k.val]'(Nat.lt_of_lt_of_le k.isLt (by decide)) = hexD k.val := by decide
  exact H ⟨k, hk⟩
theorem HexAt.digit {n q i u k : Nat} {S : Bs} {w w' : World} (h : HexAt n q (i + 1) u S w w') (hq : w.heap.size ≤ q) (hk : k < 16) (hz : k < digitsB.size) : (w'.setCell ⟨q, i, none⟩ (.int .u8 (digitsB[k]'hz).toNat)).heap[q]? = some (.cells (bytesV (List.replicate i 0 ++ hexD k :: S)) 149 (0, 0)) ∧ Spares nowhere w (w'.setCell ⟨q, i, none⟩ (.int .u8 (digitsB[k]'hz).toNat)) := by
  rw [hexLit k hk]
  exact h.put hq _
theorem slice65 (q j : Nat) (h : j < 65) (w : World) : (Instr.sliceAt 149 (.pointer (some ⟨q, 0, none⟩)) (some (.int .i64 (j : Int))) none none).run Tryz.prog w = .ok (.slice (some ⟨q, j, none⟩) (65 - j) (65 - j)) w := by
  have hl : Tryz.prog.arrayLen 149 = 65 := by kernel_rfl
  have hs : (sizeOf (Tryz.prog.elem 149)).run Tryz.prog w = .ok 1 w := by kernel_rfl
  have hu : Tryz.prog.underlying 149 = some (.array (Tryz.prog.arrayLen 149) (Tryz.prog.elem 149)) := by kernel_rfl
  have := run_sliceAt_array_l w 149 ⟨q, 0, none⟩ hu .i64 (j : Int) (Int.natCast_nonneg _) (by rw [hl]; exact Int.ofNat_le.2 (Nat.le_of_lt h))
  rw [this, hl, hs]
  simp only [Result.andThen_ok, slicedAt, Int.toNat_natCast, Nat.mul_one]
  rw [if_neg (by omega), Addr.add_lit, Nat.zero_add]
theorem bytesAt_drop8 {w : World} {x o : Nat} {b : Bs} (h : BytesAt w (some ⟨x, o, none⟩) b) (k : Nat) : BytesAt w (some ⟨x, o + k, none⟩) (b.drop k) := by
  intro j hj
  have hj2 : k + j < b.length := by simp at hj; omega
  obtain ⟨y, z, e, hc⟩ := h (k + j) hj2
  injection e with e
  injection e with e1 e2
  subst e1; subst e2
  refine ⟨x, o + k, rfl, ?_⟩
  rw [Nat.add_assoc, hc]
  simp
theorem zeros65 : Tryz.zeroCells149 = bytesV (List.replicate 65 0) := by kernel_rfl
end Go.Proofs.YtkbcklaloblmeaaGreatDoor.ChunkS
