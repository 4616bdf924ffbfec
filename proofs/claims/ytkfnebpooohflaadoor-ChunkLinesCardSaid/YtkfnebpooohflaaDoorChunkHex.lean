/-
  A number's hexadecimal digits, appended to bytes (strconv.AppendInt at base 16).
-/
import Derived.Test.YtkfnebpooohflaaDoorChunkMath
import Derived.Test.YtkfnebpooohflaaDoorRow8
import Derived.Test.YtkfnebpooohflaaDoorShaEnd
import Derived.LoopTactic
import Derived.Laws.BitsAllLaws
import Derived.IntWalk
import Derived.WalkSpells
namespace Go.Proofs.YtkfnebpooohflaaDoor
open Go.RowKit HeadMath NormMath NormS ChunkMath

def hexD (k : Nat) : UInt8 := if k < 10 then UInt8.ofNat (48 + k) else UInt8.ofNat (87 + k)
def hexT (n : Nat) : Bs := if _h : n < 16 then [hexD n] else hexT (n / 16) ++ [hexD (n % 16)]
theorem hexT_one {n : Nat} (h : n < 16) : hexT n = [hexD n] := by rw [hexT, dif_pos h]
theorem hexT_more {n : Nat} (h : ¬ n < 16) : hexT n = hexT (n / 16) ++ [hexD (n % 16)] := by rw [hexT, dif_neg h]
theorem hexT_len : ∀ (k n : Nat), n < 16 ^ (k + 1) → (hexT n).length ≤ k + 1
  | 0, n, h => by rw [hexT_one (by simpa using h)]; simp
  | k + 1, n, h => by
    by_cases h16 : n < 16
    · rw [hexT_one h16]; simp
    · rw [hexT_more h16, List.length_append]
      have := hexT_len k (n / 16) (by rw [Nat.pow_succ] at h; omega)
      simp; omega
theorem hexT_pos (n : Nat) : 1 ≤ (hexT n).length := by
  by_cases h : n < 16
  · rw [hexT_one h]; simp
  · rw [hexT_more h, List.length_append]; simp
/-- The library's table of the numbers of trailing zeros, where it is read. -/
def TabZ (w : World) : Prop := w.cell? ⟨3, 15, none⟩ = some (.int .u8 4)
theorem TabZ.lt {w : World} (h : TabZ w) : 3 < w.heap.size := by
  rcases Nat.lt_or_ge 3 w.heap.size with h' | h'
  · exact h'
  · unfold TabZ World.cell? at h; simp [Array.getElem?_eq_none h'] at h
theorem TabZ.spares {w w' : World} (h : TabZ w) (hs : Spares nowhere w w') : TabZ w' := (hs.cell (p := ⟨3, 15, none⟩) h.lt (fun h => h)).trans h
theorem TabZ.spares2 {w w' : World} (h : TabZ w) (hs : Spares (atLeast w.heap.size) w w') : TabZ w' := (hs.cell (p := ⟨3, 15, none⟩) h.lt (fun h2 => absurd h.lt (Nat.not_lt.2 h2))).trans h
theorem TabZ.below {w w' : World} (h : TabZ w) (hb : Below w.heap.size w w') : TabZ w' := h.spares (Below.spares hb (fun _ hk => .inr hk))
theorem tz64 (w : World) (h : TabZ w) : Calls Tryd.prog 74 #[.int .u64 16] w fun e w' => e = .returned (.int .i64 4) ∧ w' = w := by
  have h' : w.cell? ⟨3, 15, none⟩ = some (.int .u8 4) := h
  have g1 : IntKind.u64.wrap (-16) = 18446744073709551600 := by decide
  have g2 : Go.bits .and .u64 16 18446744073709551600 = 16 := by decide
  have g3 : IntKind.u64.wrap (16 * 285870213051353865) = 4573923408821661840 := by decide
  clear h
  go_enter Tryd.func74, Tryd.ntmps74
  go_wp2
  go_ret
  exact ⟨rfl, rfl⟩
theorem tz (w : World) (h : TabZ w) : Calls Tryd.prog 66 #[.int .u64 16] w fun e w' => e = .returned (.int .i64 4) ∧ w' = w := by
  have c := tz64 w h
  go_enter Tryd.func66, Tryd.ntmps66
  go_wp2_with fail
  refine c.mono ?_
  rintro e w1 ⟨rfl, hw⟩
  replace hw := hw.symm
  subst hw
  go_wp2
  go_ret
  exact ⟨rfl, rfl⟩
theorem power (w : World) : Calls Tryd.prog 65 #[.int .i64 16] w fun e w' => e = .returned (.bool true) ∧ w' = w := by
  go_enter Tryd.func65, Tryd.ntmps65
  go_wp2
  go_ret
  exact ⟨rfl, rfl⟩
/-- Where formatBits stands: i places are free yet, behind them the digits that are there. -/
def HexAt (n q : Nat) (i u : Nat) (S : Bs) (w w' : World) : Prop := hexT n = hexT u ++ S ∧ i + S.length = 65 ∧ w'.heap[q]? = some (.cells (bytesV (List.replicate i 0 ++ S)) 94 (0, 0)) ∧ Spares nowhere w w'
theorem HexAt.put {n q i u : Nat} {S : Bs} {w w' : World} (h : HexAt n q (i + 1) u S w w') (hq : w.heap.size ≤ q) (x : UInt8) : (w'.setCell ⟨q, i, none⟩ (.int .u8 x.toNat)).heap[q]? = some (.cells (bytesV (List.replicate i 0 ++ x :: S)) 94 (0, 0)) ∧ Spares nowhere w (w'.setCell ⟨q, i, none⟩ (.int .u8 x.toNat)) := by
  obtain ⟨_, _, h3, h4⟩ := h
  refine ⟨(heap_set h3 i _).trans ?_, h4.setCell (p := ⟨q, i, none⟩) (.inr hq) _⟩
  have hb := bytesV_set (List.replicate i 0) S 0 x
  rw [List.length_replicate] at hb
  rw [List.replicate_succ', List.append_assoc]
  exact congrArg (fun r => some (Obj.cells r 94 (0, 0))) hb
end Go.Proofs.YtkfnebpooohflaaDoor
