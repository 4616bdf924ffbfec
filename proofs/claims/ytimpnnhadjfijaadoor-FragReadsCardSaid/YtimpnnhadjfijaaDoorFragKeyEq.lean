/-
  Two values of type [32]byte, and of [16]byte, held against one another.
-/
import Derived.Test.YtimpnnhadjfijaaDoorKeyEq
namespace Go.Proofs.YtimpnnhadjfijaaDoor
open Go.RowKit

theorem cells_r : Tryd.prog.cellsOf 22 = 32 := by kernel_rfl
theorem cells_16 : Tryd.prog.cellsOf 45 = 16 := by kernel_rfl
theorem keyr_lits (X : List UInt8) (h : X.length = 32) : Tryd.prog.keyLits 2 22 (Lib.byteCells X) = some ((List.range 32).map fun i => Lit.int .u8 (X.getD i 0).toNat) := by
  unfold Program.keyLits
  rw [Tryd.underlying22]
  simp only [cells_one.1, cells_r, byteCells_len, h, if_true, Nat.mul_one]
  rw [mapM_some _ (fun i => [Lit.int .u8 (X.getD i 0).toNat]), Option.map_some, flatten_ones]
  intro i hi
  have hi : i < X.length := by rw [h]; simpa using hi
  have e : ((Lib.byteCells X).drop i).take 1 = [.int .u8 (X.getD i 0).toNat] := by
    unfold Lib.byteCells
    rw [List.drop_eq_getElem_cons (by simpa using hi)]
    simp [List.getElem?_eq_getElem hi]
  rw [e]
  exact byte_lits _
set_option maxRecDepth 100000 in
theorem keyr_equal (X Y : List UInt8) (hX : X.length = 32) (hY : Y.length = 32) (w : World) : (Op.equalIn 10000 22 (.agg (bytesV X)) (.agg (bytesV Y))).run Tryd.prog w = .ok (decide (X = Y)) w := by
  have form : ∀ Z : List UInt8, Z.length = 32 → (Value.agg (bytesV Z)).formed Tryd.prog 22 = true := fun Z hZ => by
    unfold Value.formed
    rw [Tryd.underlying22]
    simp [cells_r, bytesV_size, hZ]
  obtain ⟨r, hr, hiff⟩ := run_equalIn_deep (P := Tryd.prog) 9998 2 22 (by kernel_rfl) w 2 2 _ _ _ _ (form X hX) (form Y hY) (keyr_lits X hX) (keyr_lits Y hY)
  rw [hr]
  have hq : r = true ↔ X = Y := by
    rw [hiff]
    constructor
    · intro he
      apply List.ext_getElem (by omega)
      intro i h1 h2
      have := congrArg (fun l => l[i]?) he
      simp only [List.getElem?_map] at this
      rw [List.getElem?_range (by omega)] at this
      simp at this
      rw [List.getElem?_eq_getElem h1, List.getElem?_eq_getElem h2] at this
      have h5 : ((X[i]).toNat : Int) = ((Y[i]).toNat : Int) := by simpa using this
      have h3 : (X[i]).toNat = (Y[i]).toNat := by omega
      exact UInt8.toNat_inj.1 h3
    · rintro rfl; rfl
  congr 1
  by_cases h : X = Y
  · rw [hq.2 h, decide_eq_true h]
  · rw [decide_eq_false h]
    cases r with
    | true => exact absurd (hq.1 rfl) h
    | false => rfl
theorem key16_lits (X : List UInt8) (h : X.length = 16) : Tryd.prog.keyLits 2 45 (Lib.byteCells X) = some ((List.range 16).map fun i => Lit.int .u8 (X.getD i 0).toNat) := by
  unfold Program.keyLits
  rw [Tryd.underlying45]
  simp only [cells_one.1, cells_16, byteCells_len, h, if_true, Nat.mul_one]
  rw [mapM_some _ (fun i => [Lit.int .u8 (X.getD i 0).toNat]), Option.map_some, flatten_ones]
  intro i hi
  have hi : i < X.length := by rw [h]; simpa using hi
  have e : ((Lib.byteCells X).drop i).take 1 = [.int .u8 (X.getD i 0).toNat] := by
    unfold Lib.byteCells
    rw [List.drop_eq_getElem_cons (by simpa using hi)]
    simp [List.getElem?_eq_getElem hi]
  rw [e]
  exact byte_lits _
set_option maxRecDepth 100000 in
theorem key16_equal (X Y : List UInt8) (hX : X.length = 16) (hY : Y.length = 16) (w : World) : (Op.equalIn 10000 45 (.agg (bytesV X)) (.agg (bytesV Y))).run Tryd.prog w = .ok (decide (X = Y)) w := by
  have form : ∀ Z : List UInt8, Z.length = 16 → (Value.agg (bytesV Z)).formed Tryd.prog 45 = true := fun Z hZ => by
    unfold Value.formed
    rw [Tryd.underlying45]
    simp [cells_16, bytesV_size, hZ]
  obtain ⟨r, hr, hiff⟩ := run_equalIn_deep (P := Tryd.prog) 9998 2 45 (by kernel_rfl) w 2 2 _ _ _ _ (form X hX) (form Y hY) (key16_lits X hX) (key16_lits Y hY)
  rw [hr]
  have hq : r = true ↔ X = Y := by
    rw [hiff]
    constructor
    · intro he
      apply List.ext_getElem (by omega)
      intro i h1 h2
      have := congrArg (fun l => l[i]?) he
      simp only [List.getElem?_map] at this
      rw [List.getElem?_range (by omega)] at this
      simp at this
      rw [List.getElem?_eq_getElem h1, List.getElem?_eq_getElem h2] at this
      have h5 : ((X[i]).toNat : Int) = ((Y[i]).toNat : Int) := by simpa using this
      have h3 : (X[i]).toNat = (Y[i]).toNat := by omega
      exact UInt8.toNat_inj.1 h3
    · rintro rfl; rfl
  congr 1
  by_cases h : X = Y
  · rw [hq.2 h, decide_eq_true h]
  · rw [decide_eq_false h]
    cases r with
    | true => exact absurd (hq.1 rfl) h
    | false => rfl
end Go.Proofs.YtimpnnhadjfijaaDoor
