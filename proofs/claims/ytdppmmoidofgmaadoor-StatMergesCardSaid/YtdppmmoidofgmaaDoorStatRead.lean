/-
  Counters read: one of them, all the sizes.
-/
import Derived.Test.YtdppmmoidofgmaaDoorStatAtomic
import Derived.Laws.NewBlocks
namespace Go.Proofs.YtdppmmoidofgmaaDoor
open Go.RowKit

def ofF (L : Cs) (how : Int) : Int := if 0 ≤ how ∧ how < 6 then gI L how.toNat else 0
def classF (L : Cs) (n : Int) : Int := if 1 ≤ n ∧ n < 6 then gI L (6 + n.toNat) else 0
theorem load_run {a : Addr} {x : Int} {w : World} (hc : w.cell? a = some (.int .i64 x)) : (callFunc 33 #[.pointer (some a)]).run Tryd.prog w = .ok (.value (.int .i64 x)) w :=
  run_call_load (P := Tryd.prog) Tryd.func33 (by kernel_rfl) (by kernel_rfl) (by kernel_rfl) .i64 (by kernel_rfl) hc
theorem add_run {a : Addr} {x y : Int} {w : World} (hc : w.cell? a = some (.int .i64 x)) (hz : w.frozen? a = false) (hw : IntKind.i64.wrap (x + y) = x + y) :
    (callFunc 28 #[.pointer (some a), .int .i64 y]).run Tryd.prog w = .ok (.value (.int .i64 (x + y))) (w.setCell a (.int .i64 (x + y))) :=
  run_call_add (P := Tryd.prog) Tryd.func28 (by kernel_rfl) (by kernel_rfl) (by kernel_rfl) .i64 (by kernel_rfl) hc hz (by simp [go_sem, hw])
abbrev IsStat (p : Nat) (L : Cs) (w : World) : Prop := StatAt 56 p L w
set_option maxRecDepth 100000 in
theorem of_any (p : Nat) (L : Cs) (how : Int) (w : World) (h : IsStat p L w) (hl : L.length = 45) :
    Calls Tryd.prog 16 #[.pointer (some ⟨p, 0, none⟩), .int .i64 how] w fun e w' => e = .returned (.int .i64 (ofF L how)) ∧ w' = w := by
  by_cases h0 : how < 0
  · have e : ofF L how = 0 := if_neg (by omega)
    rw [e]
    go_enter Tryd.func16, Tryd.ntmps16
    go_wp2
    go_ret
    exact ⟨rfl, rfl⟩
  · by_cases h6 : 6 ≤ how
    · have e : ofF L how = 0 := if_neg (by omega)
      rw [e]
      go_enter Tryd.func16, Tryd.ntmps16
      go_wp2
      go_ret
      exact ⟨rfl, rfl⟩
    · obtain ⟨k, rfl⟩ : ∃ k : Nat, how = (k : Int) := ⟨how.toNat, by omega⟩
      have hk : k < 6 := by omega
      have e : ofF L (k : Int) = gI L k := (if_pos (by omega)).trans (by simp)
      have hc := h.cell (k := k) (by omega)
      rw [e]
      go_enter Tryd.func16, Tryd.ntmps16
      have hl := load_run hc
      go_wp2
      go_ret
      exact ⟨rfl, rfl⟩
set_option maxRecDepth 100000 in
theorem class_any (p : Nat) (L : Cs) (n : Int) (w : World) (h : IsStat p L w) (hl : L.length = 45) :
    Calls Tryd.prog 17 #[.pointer (some ⟨p, 0, none⟩), .int .i64 n] w fun e w' => e = .returned (.int .i64 (classF L n)) ∧ w' = w := by
  by_cases h0 : n < 1
  · have e : classF L n = 0 := if_neg (by omega)
    rw [e]
    go_enter Tryd.func17, Tryd.ntmps17
    go_wp2
    go_ret
    exact ⟨rfl, rfl⟩
  · by_cases h6 : 6 ≤ n
    · have e : classF L n = 0 := if_neg (by omega)
      rw [e]
      go_enter Tryd.func17, Tryd.ntmps17
      go_wp2
      go_ret
      exact ⟨rfl, rfl⟩
    · obtain ⟨k, rfl⟩ : ∃ k : Nat, n = (k : Int) := ⟨n.toNat, by omega⟩
      have hk : k < 6 := by omega
      have e : classF L (k : Int) = gI L (6 + k) := (if_pos (by omega)).trans (by simp)
      have hl := load_run (h.cell (k := 6 + k) (by omega))
      rw [e]
      go_enter Tryd.func17, Tryd.ntmps17
      go_wp2
      go_ret
      exact ⟨rfl, rfl⟩
set_option maxRecDepth 100000 in
theorem bytes_any (p : Nat) (L : Cs) (w : World) (h : IsStat p L w) (hl : L.length = 45) :
    Calls Tryd.prog 18 #[.pointer (some ⟨p, 0, none⟩)] w fun e w' => e = .returned (.int .i64 (gI L 44)) ∧ w' = w := by
  have hl := load_run (h.cell (k := 44) (by omega))
  go_enter Tryd.func18, Tryd.ntmps18
  go_wp2
  go_ret
  exact ⟨rfl, rfl⟩
/-- The first k sizes, and noughts behind them. -/
def sizesA (L : Cs) (k : Nat) : Array Value := (((List.range 32).map fun j => Value.int .i64 (if j < k then gI L (12 + j) else 0))).toArray
theorem sizesA_zero (L : Cs) : sizesA L 0 = Array.replicate 32 (.int .i64 0) := by
  unfold sizesA
  simp only [Nat.not_lt_zero, if_false]
  rfl
theorem sizesA_size (L : Cs) (k : Nat) : (sizesA L k).size = 32 := by simp [sizesA]
theorem sizesA_get (L : Cs) (k i : Nat) (h : i < (sizesA L k).size) : (sizesA L k)[i] = .int .i64 (if i < k then gI L (12 + i) else 0) := by
  simp [sizesA]
theorem sizesA_set (L : Cs) (k : Nat) (_hk : k < 32) : (sizesA L k).setIfInBounds k (.int .i64 (gI L (12 + k))) = sizesA L (k + 1) := by
  apply Array.ext
  · rw [Array.size_setIfInBounds, sizesA_size, sizesA_size]
  · intro i h1 h2
    rw [sizesA_get, Array.getElem_setIfInBounds (by rw [Array.size_setIfInBounds] at h1; exact h1)]
    by_cases hik : k = i
    · subst hik
      rw [if_pos rfl, if_pos (by omega)]
    · rw [if_neg hik, sizesA_get]
      by_cases hlt : i < k
      · rw [if_pos hlt, if_pos (by omega)]
      · rw [if_neg hlt, if_neg (by omega)]
theorem i64Info : (Tryd.prog.info? 2).map (fun i => (i.zero, i.size, i.bytes)) = some (some (.int .i64 0), 1, 8) := by kernel_rfl
set_option maxRecDepth 100000 in
theorem make_sizes (w : World) : (Instr.makeSlice 43 (.int .i64 32) (.int .i64 32)).run Tryd.prog w = .ok (.slice (some ⟨w.heap.size, 0, none⟩) 32 32) (w.alloc (.cells (Array.replicate 32 (.int .i64 0)) 2)) := by
  obtain ⟨i0, hi, hz0, hz1, hz2⟩ := info_parts i64Info
  have h := run_make (P := Tryd.prog) w 43 2 i0 (.int .i64 0) Tryd.underlying43 hi hz0 .i64 .i64 32 32 (by omega) (by omega) (by rw [hz2]; omega) (by omega)
  rw [h, hz1, show madeCells (Value.int IntKind.i64 0).cells (Int.toNat 32 * 1) = Array.replicate 32 (.int .i64 0) by kernel_rfl]
  rfl
set_option maxRecDepth 100000 in
set_option maxHeartbeats 1000000 in
theorem sizes_any (p : Nat) (L : Cs) (w : World) (h : IsStat p L w) (hl : L.length = 45) :
    Calls Tryd.prog 15 #[.pointer (some ⟨p, 0, none⟩)] w fun e w' => e = .returned (.slice (some ⟨w.heap.size, 0, none⟩) 32 32) ∧ w' = w.alloc (.cells (sizesA L 32) 2) := by
  have hmk := make_sizes w
  have HC : Hid (∀ (k j : Nat), k < 32 → (w.alloc (.cells (sizesA L j) 2)).cell? ⟨p, 12 + k, none⟩ = some (.int .i64 (gI L (12 + k)))) := Lib.hid (fun k j hk => StatAt.cell (t := 56) (show StatAt _ p L _ from (Below.heap_alloc _ _ _ h.lt).trans h) (by omega))
  have HZ := Lib.hid (sizesA_zero L)
  have HS := Lib.hid (sizesA_set L)
  have HN := Lib.hid (sizesA_size L)
  clear h
  go_enter Tryd.func15, Tryd.ntmps15
  go_wp2
  go_loopw [8] (fun i wr => ∃ k : Nat, k ≤ 32 ∧ i = .int .i64 k ∧ wr = w.alloc (.cells (sizesA L k) 2)) (fun i _ => 32 - (intOf i).toNat)
  case atStart => exact ⟨0, by omega, rfl, by rw [HZ.out]⟩
  case round =>
    obtain ⟨k, hk, rfl, rfl⟩ := hrel
    by_cases hlt : k < 32
    · have hl := load_run (HC.out k k hlt)
      have hk2 : k < (sizesA L k).size := by rw [HN.out]; exact hlt
      go_wp2
      go_roundw
      case rel => exact ⟨k + 1, by omega, by go_num, by rw [HS.out k hlt]⟩
      case measure => simp [intOf]; omega
    · obtain rfl : k = 32 := by omega
      go_wp2
      go_ret
      exact ⟨rfl, rfl⟩
end Go.Proofs.YtdppmmoidofgmaaDoor
