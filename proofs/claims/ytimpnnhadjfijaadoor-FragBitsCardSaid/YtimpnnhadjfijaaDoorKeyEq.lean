/-
  Two keys of 32 bytes, held against one another.
-/
import Derived.Test.YtimpnnhadjfijaaDoorShaEnd
import Derived.DeepKeys
namespace Go.Proofs.YtimpnnhadjfijaaDoor
open Go.RowKit

theorem mapM_some {α β : Type} (f : α → Option β) (g : α → β) : ∀ l : List α, (∀ i ∈ l, f i = some (g i)) → l.mapM f = some (l.map g)
  | [], _ => rfl
  | x :: l, h => by
    rw [List.mapM_cons, h x (List.mem_cons_self ..), mapM_some f g l (fun i hi => h i (List.mem_cons_of_mem _ hi))]
    rfl
theorem flatten_ones {α β : Type} (h : α → β) : ∀ l : List α, (l.map fun i => [h i]).flatten = l.map h
  | [] => rfl
  | x :: l => by rw [List.map_cons, List.flatten_cons, flatten_ones h l]; rfl
theorem byte_lits (x : UInt8) : Tryd.prog.keyLits 1 5 [.int .u8 x.toNat] = some [.int .u8 x.toNat] := by
  have hx := x.toNat_lt
  have hw : (Lit.int .u8 (x.toNat : Int)).wf = true := by
    simp [Lit.wf]
    have e1 : IntKind.u8.min = 0 := by decide
    have e2 : IntKind.u8.max = 255 := by decide
    rw [e1, e2]
    omega
  unfold Program.keyLits
  rw [Tryd.underlying5]
  simp [hw]
theorem cells_one : Tryd.prog.cellsOf 5 = 1 ∧ Tryd.prog.cellsOf 23 = 32 := ⟨by kernel_rfl, by kernel_rfl⟩
theorem key_lits (X : List UInt8) (h : X.length = 32) : Tryd.prog.keyLits 2 23 (Lib.byteCells X) = some ((List.range 32).map fun i => Lit.int .u8 (X.getD i 0).toNat) := by
  unfold Program.keyLits
  rw [Tryd.underlying23]
  simp only [cells_one.1, cells_one.2, byteCells_len, h, if_true, Nat.mul_one]
  rw [mapM_some _ (fun i => [Lit.int .u8 (X.getD i 0).toNat]), Option.map_some, flatten_ones]
  intro i hi
  have hi : i < X.length := by rw [h]; simpa using hi
  have e : ((Lib.byteCells X).drop i).take 1 = [.int .u8 (X.getD i 0).toNat] := by
    unfold Lib.byteCells
    rw [List.drop_eq_getElem_cons (by simpa using hi)]
    simp [List.getElem?_eq_getElem hi]
  rw [e]
  exact byte_lits _
set_option maxRecDepth 100000 in
theorem key_equal (X Y : List UInt8) (hX : X.length = 32) (hY : Y.length = 32) (w : World) : (Op.equalIn 10000 23 (.agg (bytesV X)) (.agg (bytesV Y))).run Tryd.prog w = .ok (decide (X = Y)) w := by
  have form : ∀ Z : List UInt8, Z.length = 32 → (Value.agg (bytesV Z)).formed Tryd.prog 23 = true := fun Z hZ => by
    unfold Value.formed
    rw [Tryd.underlying23]
    simp [cells_one.2, bytesV_size, hZ]
  obtain ⟨r, hr, hiff⟩ := run_equalIn_deep (P := Tryd.prog) 9998 2 23 (by kernel_rfl) w 2 2 _ _ _ _ (form X hX) (form Y hY) (key_lits X hX) (key_lits Y hY)
  rw [hr]
  have hq : r = true ↔ X = Y := by
    rw [hiff]
    constructor
    · intro he
      apply List.ext_getElem (by omega)
      intro i h1 h2
      have := congrArg (fun l => l[i]?) he
      simp only [List.getElem?_map] at this
      rw [List.getElem?_range (by omega)] at this
      simp at this
      rw [List.getElem?_eq_getElem h1, List.getElem?_eq_getElem h2] at this
      have h5 : ((X[i]).toNat : Int) = ((Y[i]).toNat : Int) := by simpa using this
      have h3 : (X[i]).toNat = (Y[i]).toNat := by omega
      exact UInt8.toNat_inj.1 h3
    · rintro rfl; rfl
  congr 1
  by_cases h : X = Y
  · rw [hq.2 h, decide_eq_true h]
  · rw [decide_eq_false h]
    cases r with
    | true => exact absurd (hq.1 rfl) h
    | false => rfl
end Go.Proofs.YtimpnnhadjfijaaDoor
