/-
  Zeros appended to a row of the call's own: append(b, make([]byte, k)...).
-/
import Derived.Test.YtimpnnhadjfijaaDoorBytes2
import Derived.Lib.AppendZerosOnto
import Derived.Lib.AppendZeros
namespace Go.Proofs.YtimpnnhadjfijaaDoor
open Go.RowKit

theorem zeroCells_bytes (k : Nat) : (Builtin.zeroCells (Value.int IntKind.u8 0).cells k).toList = Lib.byteCells (List.replicate k 0) := by
  have h : ∀ k : Nat, Builtin.zeroCells (Value.int IntKind.u8 0).cells k = (Lib.byteCells (List.replicate k 0)).toArray := by
    intro k
    apply Array.ext
    · simp [Builtin.zeroCells, Lib.byteCells, Value.cells]
    · intro i h1 h2
      simp [Builtin.zeroCells, Lib.byteCells, Value.cells, Nat.mod_one] at h1 ⊢
  rw [h]
theorem zeroCells_mk (k : Nat) : Builtin.zeroCells (Value.int IntKind.u8 0).cells k = (Lib.byteCells (List.replicate k 0)).toArray := by
  rw [← zeroCells_bytes]

theorem append_zeros {w : World} {v : Value} {d : List UInt8} (hown : OwnBytes w v d) (k : Nat) (hk0 : 0 < k) (hlen : d.length + k ≤ 140737488355328) (ty : TypeId) :
    ∃ ao c' w', (Builtin.append_ #[27, 3] ty #[v, .int .i64 k]).run Tryd.prog w = .ok (.slice ao (d.length + k) c') w' ∧ OwnBytes w' (.slice ao (d.length + k) c') (d ++ List.replicate k 0) ∧ w.grownBy w' v.ownBlock ∧
      ∀ g, (Value.slice ao (d.length + k) c').ownBlock = some g → v.ownBlock = some g ∨ w.heap.size ≤ g := by
  obtain ⟨i0, hi, hz0, hz1, hz2⟩ := info_parts byteInfo
  have hl : (d ++ List.replicate k 0).length = d.length + k := by simp
  have hb : Lib.byteCells (d ++ List.replicate k 0) = Lib.byteCells d ++ Lib.byteCells (List.replicate k 0) := byteCells_app _ _
  have hbl := byteCells_len d
  have hrl : (Lib.byteCells (List.replicate k (0 : UInt8))).length = k := by rw [byteCells_len]; simp
  have hmx : d.length + k ≤ maxLen := by unfold maxLen; omega
  have grown : ∀ (old : Nat), old < d.length + k → ∀ (row : Option Nat),
      OwnBytes (w.drew.alloc (.cells ((Lib.byteCells d).toArray ++ Builtin.zeroCells (Value.int IntKind.u8 0).cells k ++ Builtin.zeroCells (Value.int IntKind.u8 0).cells (grownCap w (d.length + k) old 5 - (d.length + k))) 5))
        (.slice (some ⟨w.heap.size, 0, none⟩) (d.length + k) (grownCap w (d.length + k) old 5)) (d ++ List.replicate k 0) ∧
      w.grownBy (w.drew.alloc (.cells ((Lib.byteCells d).toArray ++ Builtin.zeroCells (Value.int IntKind.u8 0).cells k ++ Builtin.zeroCells (Value.int IntKind.u8 0).cells (grownCap w (d.length + k) old 5 - (d.length + k))) 5)) row := by
    intro old ho row
    have hge := grownCap_ge w (d.length + k) old 5
    have hcm : grownCap w (d.length + k) old 5 ≤ maxLen := grownCap_le_maxLen w (d.length + k) old 5 hmx
    refine ⟨⟨by rw [byteCells_len, hl]; omega, .inr ⟨w.heap.size, _, _, by rw [hl], Nat.zero_le _, heap_alloc_new w.drew _, by rw [hl]; exact hge, hcm, ?_, ?_⟩⟩, ⟨rfl, rfl, rfl, by simp, fun j hj _ => Lib.alloc_old w.drew _ j hj⟩⟩
    · rw [zeroCells_mk, zeroCells_mk]
      simp [Lib.byteCells]
      omega
    · rw [zeroCells_mk, hl]
      simp only [Array.toList_append, List.append_assoc]
      rw [← List.append_assoc, ← hb, Nat.mul_one, ← hl, ← byteCells_len (d ++ List.replicate k 0)]
      exact List.take_left
  have h48 : k * i0.bytes ≤ 281474976710656 := by rw [hz2]; omega
  rcases hown.2 with ⟨rfl, hd0⟩ | ⟨g, cap, cur, rfl, _, hg, hnc, hcm, hcs, htake⟩
  · have hd : d = [] := List.eq_nil_of_length_eq_zero hd0
    subst hd
    have hr := Lib.run_append_nil_zeros (P := Tryd.prog) w 27 3 ty 5 i0 (.int .u8 0) .i64 .i64 Tryd.underlying27 Tryd.underlying3 hi hz0 k hk0 (by omega) (by omega) h48
    have hgr := grown 0 (by omega) (Value.ownBlock (.slice none 0 0))
    simp only [List.length_nil, Nat.zero_add, List.nil_append] at hgr ⊢
    refine ⟨_, _, _, hr, ?_⟩
    have e : (Lib.byteCells []).toArray = #[] := rfl
    rw [e] at hgr
    simp only [Array.empty_append] at hgr
    refine ⟨hgr.1, hgr.2, fun g hg => .inr ?_⟩
    simp only [Value.ownBlock, Option.some.injEq] at hg
    omega
  · by_cases hroom : d.length + k ≤ cap
    · have hw : IntKind.i64.wrap (k : Int) = k := by rw [IntKind.wrap_i64]; omega
      have hneg : ¬ ((k : Int) < 0) := by omega
      have h48i : ¬ (281474976710656 < (k : Int) * (i0.bytes : Int)) := by rw [← Int.natCast_mul]; omega
      have hns : ¬ (k = 0) := by omega
      have hfit : d.length * 1 + (Lib.byteCells (List.replicate k (0 : UInt8))).length ≤ cur.size := by rw [hrl, hcs]; omega
      have hst := run_storeCells_at Tryd.prog g (d.length * 1) 5 (Lib.byteCells (List.replicate k 0)) 0 cur w hg (by simpa using hfit) (byteCells_one _)
      simp only [Nat.add_zero, Nat.mul_one] at hst
      have hr : (Builtin.append_ #[27, 3] ty #[.slice (some ⟨g, 0, none⟩) d.length cap, .int .i64 k]).run Tryd.prog w = .ok (.slice (some ⟨g, 0, none⟩) (d.length + k) cap)
          (w.setRow g (cur.toList.take d.length ++ Lib.byteCells (List.replicate k 0) ++ cur.toList.drop (d.length + (Lib.byteCells (List.replicate k (0 : UInt8))).length)).toArray) := by
        simp [Builtin.append_, run_underlying Tryd.underlying27, run_underlying Tryd.underlying3, sizeOf, typeInfo, zeroValue, hi, hz0, hz1, asInt, asIntOf, hw, hneg, h48i, hns, hroom, Addr.add_lit, zeroCells_mk, hst]
      refine ⟨_, _, _, hr, ⟨by rw [byteCells_len, hl]; omega, .inr ⟨g, cap, _, by rw [hl], Nat.zero_le _, setRow_heap w g cur _ 5 _ hg, by rw [hl]; exact hroom, hcm, ?_, ?_⟩⟩, ⟨rfl, rfl, rfl, by simp, fun j _ hj => setRow_other w g j _ (fun e => hj (by simp [Value.ownBlock, e]))⟩, fun g' hg' => .inl hg'⟩
      · simp only [List.size_toArray, List.length_append, List.length_take, List.length_drop, Array.length_toList, hrl]
        omega
      · simp only [Nat.mul_one] at htake
        simp only
        rw [htake, hl, Nat.mul_one, ← hb, ← hl, ← byteCells_len (d ++ List.replicate k 0)]
        exact List.take_left
    · have holds : ∀ j u, (Lib.byteCells d)[j]? = some u → w.drew.cell? ((⟨g, 0, none⟩ : Addr).add j) = some u := fun j u hj => World.ownsRow.cells hown (g := g) rfl j u hj
      have hf := run_firstCells_some (P := Tryd.prog) w.drew 1 d.length ⟨g, 0, none⟩ d.length cap (Lib.byteCells d) (by omega) holds
      rw [← hz1] at hf
      have hr := Lib.run_append_grow_zeros (P := Tryd.prog) w 27 3 ty 5 i0 (.int .u8 0) .i64 .i64 Tryd.underlying27 Tryd.underlying3 hi hz0 (some ⟨g, 0, none⟩) d.length cap (Lib.byteCells d) hf k hk0 (by omega) (by omega) (by omega) h48 (growslice_fits (by omega) (by rw [hz2]; omega))
      have hgr := grown cap (by omega) (Value.ownBlock (.slice (some ⟨g, 0, none⟩) d.length cap))
      refine ⟨_, _, _, hr, hgr.1, hgr.2, fun g' hg' => .inr ?_⟩
      simp only [Value.ownBlock, Option.some.injEq] at hg'
      omega
/-- One byte of an own row is stored. -/
theorem OwnBytes.set {w : World} {g n c : Nat} {d : List UInt8} (h : OwnBytes w (.slice (some ⟨g, 0, none⟩) n c) d) (j : Nat) (x : UInt8) :
    OwnBytes (w.setCell ⟨g, j, none⟩ (.int .u8 x.toNat)) (.slice (some ⟨g, 0, none⟩) n c) (d.set j x) := by
  rcases h.2 with ⟨e, _⟩ | ⟨g', cap, cur, e, _, hg, hnc, hcm, hcs, htake⟩
  · cases e
  · injection e with e1 e2 e3
    injection e1 with e1
    injection e1 with e1 _ _
    subst e1; subst e3
    refine ⟨by simp [byteCells_len], .inr ⟨g, c, cur.setIfInBounds j (.int .u8 x.toNat), by rw [List.length_set, e2], Nat.zero_le _, ?_, by simpa using hnc, hcm, by simpa using hcs, ?_⟩⟩
    · simp [World.setCell, Array.getElem?_modify, hg]
    · simp only [Nat.mul_one, List.length_set] at htake ⊢
      rw [Array.toList_setIfInBounds, List.take_set, htake]
      simp [Lib.byteCells, List.map_set]
end Go.Proofs.YtimpnnhadjfijaaDoor
