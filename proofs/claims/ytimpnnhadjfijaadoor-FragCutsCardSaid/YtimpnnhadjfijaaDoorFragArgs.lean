/-
  A fragment's head, an entry and sixteen bytes that came in, opened.
-/
import Derived.Test.YtimpnnhadjfijaaDoorFragLaid
import Derived.OpenShut
import Derived.Lib.SmallJoins
namespace Go.Proofs.YtimpnnhadjfijaaDoor
open Go.RowKit CrcMath
open Go.WideShapes Go.ChangeAt

set_option maxRecDepth 100000
section
variable {H : Type} {W : World} {enc : TypeId × Value → H}
theorem byteArr_open {t : TypeId} {m fuel : Nat} {cs : List Value} {x : DataW H × List MemPlace} (ht : Tryd.prog.underlying t = some (.array m 5)) (hC : Tryd.prog.cellsOf t = m)
    (h : DataW.trod enc Tryd.prog W 0 (fun _ => true) true fuel t cs = some x) : ∃ X : List UInt8, X.length = m ∧ cs = Lib.byteCells X := by
  obtain ⟨xs, n, _, _, hl, hlen, hf⟩ := DataW.trod_array ht h
  have h1 : Tryd.prog.cellsOf 5 = 1 := cells_one.1
  rw [hC] at hl
  have hk : ∀ i, i < m → ∃ k : Nat, k < 256 ∧ cs[i]? = some (.int .u8 (k : Int)) := by
    intro i hi
    have := hf i hi
    rw [h1, Nat.mul_one, List.getElem?_eq_getElem (by omega)] at this
    obtain ⟨z, h2, _, hw⟩ := DataW.trod_int Tryd.underlying5 this
    obtain ⟨k, hk, rfl⟩ := u8_nat hw
    refine ⟨k, hk, ?_⟩
    have := congrArg (fun l => l[0]?) h2
    simpa [List.getElem?_take, List.getElem?_drop] using this
  refine ⟨cs.map fun v => match v with | .int _ z => UInt8.ofNat z.toNat | _ => 0, by simpa using hl, ?_⟩
  apply List.ext_getElem?
  intro i
  by_cases hi : i < m
  · obtain ⟨k, hk, hc⟩ := hk i hi
    unfold Lib.byteCells
    rw [List.getElem?_map, List.getElem?_map, hc]
    have e : (UInt8.ofNat ((k : Int)).toNat).toNat = k := by rw [Int.toNat_natCast, UInt8.toNat_ofNat']; omega
    show some (Value.int .u8 (k : Int)) = some (Value.int .u8 ((UInt8.ofNat ((k : Int)).toNat).toNat : Int))
    rw [e]
  · rw [List.getElem?_eq_none (by omega), List.getElem?_eq_none (by simp [Lib.byteCells]; omega)]
theorem okWide_array {P : Program} {w : World} {r : Reach} {base : Nat} {t e : TypeId} {m : Nat} {v : Value} (ht : P.underlying t = some (.array m e)) (h : Value.okWide P w r base t v) : ∃ cs, v = .agg cs ∧ cs.size = P.cellsOf t := by
  simp only [Value.okWide, ht] at h
  obtain ⟨cs, h1, h2, _⟩ := h
  exact ⟨cs, h1, h2⟩
theorem arr16_open {v : Value} {d : DataW H} {p : List MemPlace} {r : Reach} {b0 : Nat} (hv : Value.okWide Tryd.prog W r b0 45 v) (h : DataW.Trod enc Tryd.prog W 0 (fun _ => true) true 45 v d p) :
    ∃ X : List UInt8, X.length = 16 ∧ v = .agg (bytesV X) := by
  obtain ⟨cs, rfl, hsz⟩ := okWide_array Tryd.underlying45 hv
  obtain ⟨fuel, hf⟩ := h
  obtain ⟨X, hX, e⟩ := byteArr_open (m := 16) Tryd.underlying45 (by kernel_rfl) hf
  refine ⟨X, hX, ?_⟩
  have e' : cs.toList = Lib.byteCells X := by simpa [Value.cells] using e
  unfold bytesV
  rw [← e']
theorem entry_open {v : Value} {d : DataW H} {p : List MemPlace} {r : Reach} {b0 : Nat} (hv : Value.okWide Tryd.prog W r b0 44 v) (h : DataW.Trod enc Tryd.prog W 0 (fun _ => true) true 44 v d p) :
    ∃ tag at_ sec turn : Nat, tag < 65536 ∧ at_ < 4294967296 ∧ sec < 65536 ∧ turn < 18446744073709551616 ∧ v = entryV tag at_ sec turn := by
  obtain ⟨v0, v1, v2, v3, y0, y1, y2, y3, n, rfl, _, _, t0, t1, t2, t3⟩ := Joins.open_agg4 Tryd.underlying44 (by kernel_rfl) (by kernel_rfl) hv h
  obtain ⟨z0, e0, _, w0⟩ := DataW.trod_int Tryd.underlying28 t0
  obtain ⟨z1, e1, _, w1⟩ := DataW.trod_int Tryd.underlying42 t1
  obtain ⟨z2, e2, _, w2⟩ := DataW.trod_int Tryd.underlying28 t2
  obtain ⟨z3, e3, _, w3⟩ := DataW.trod_int Tryd.underlying24 t3
  obtain ⟨k0, b0, rfl⟩ := u16_nat w0
  obtain ⟨k1, b1, rfl⟩ := u32_nat w1
  obtain ⟨k2, b2, rfl⟩ := u16_nat w2
  obtain ⟨k3, b3, rfl⟩ := u64_nat w3
  injection e0 with e0; injection e1 with e1; injection e2 with e2; injection e3 with e3
  subst e0; subst e1; subst e2; subst e3
  exact ⟨k0, k1, k2, k3, b0, b1, b2, b3, rfl⟩
theorem drop_take_split (cs : List Value) (i k : Nat) (_h : i + k ≤ cs.length) : cs.drop i = (cs.drop i).take k ++ cs.drop (i + k) := by
  rw [← List.drop_drop, List.take_append_drop]
theorem frag_open {v : Value} {d : DataW H} {p : List MemPlace} {r : Reach} {b0 : Nat} (hv : Value.okWide Tryd.prog W r b0 26 v) (h : DataW.Trod enc Tryd.prog W 0 (fun _ => true) true 26 v d p) :
    ∃ F : FragD, F.K.length = 32 ∧ F.S.length = 32 ∧ F.turn < 18446744073709551616 ∧ v = .agg (fragA F) := by
  obtain ⟨cs, rfl, hsz⟩ := okWide_struct Tryd.underlying26 hv
  obtain ⟨fuel, hf⟩ := h
  obtain ⟨xs, n, _, _, hl, hlen, hg⟩ := DataW.trod_struct Tryd.underlying26 hf
  have hc68 : Tryd.prog.cellsOf 26 = 68 := by kernel_rfl
  have hc32 : Tryd.prog.cellsOf 23 = 32 := cells_one.2
  have hcI : Tryd.prog.cellsOf 3 = 1 := by kernel_rfl
  have hcB : Tryd.prog.cellsOf 4 = 1 := by kernel_rfl
  have hcU : Tryd.prog.cellsOf 24 = 1 := by kernel_rfl
  rw [hc68] at hl
  have hx : xs.length = 6 := hlen
  obtain ⟨C, hC⟩ : ∃ C, (Value.agg cs).cells.toList = C := ⟨_, rfl⟩
  rw [hC] at hl hg
  have g0 : DataW.trod enc Tryd.prog W 0 (fun _ => true) true n 23 ((C.drop 0).take (Tryd.prog.cellsOf 23)) = xs[0]? := hg 0 _ rfl
  rw [hc32] at g0
  have g1 : DataW.trod enc Tryd.prog W 0 (fun _ => true) true n 3 ((C.drop 32).take (Tryd.prog.cellsOf 3)) = xs[1]? := hg 1 _ rfl
  rw [hcI] at g1
  have g2 : DataW.trod enc Tryd.prog W 0 (fun _ => true) true n 4 ((C.drop 33).take (Tryd.prog.cellsOf 4)) = xs[2]? := hg 2 _ rfl
  rw [hcB] at g2
  have g3 : DataW.trod enc Tryd.prog W 0 (fun _ => true) true n 3 ((C.drop 34).take (Tryd.prog.cellsOf 3)) = xs[3]? := hg 3 _ rfl
  rw [hcI] at g3
  have g4 : DataW.trod enc Tryd.prog W 0 (fun _ => true) true n 23 ((C.drop 35).take (Tryd.prog.cellsOf 23)) = xs[4]? := hg 4 _ rfl
  rw [hc32] at g4
  have g5 : DataW.trod enc Tryd.prog W 0 (fun _ => true) true n 24 ((C.drop 67).take (Tryd.prog.cellsOf 24)) = xs[5]? := hg 5 _ rfl
  rw [hcU] at g5
  rw [List.getElem?_eq_getElem (by omega)] at g0 g1 g2 g3 g4 g5
  obtain ⟨K, hK, e0⟩ := byteArr_open Tryd.underlying23 cells_one.2 g0
  obtain ⟨z1, e1, _, _⟩ := DataW.trod_int Tryd.underlying3 g1
  obtain ⟨z2, e2, _⟩ := DataW.trod_bool Tryd.underlying4 g2
  obtain ⟨z3, e3, _, _⟩ := DataW.trod_int Tryd.underlying3 g3
  obtain ⟨S, hS, e4⟩ := byteArr_open Tryd.underlying23 cells_one.2 g4
  obtain ⟨z5, e5, _, w5⟩ := DataW.trod_int Tryd.underlying24 g5
  obtain ⟨k5, b5, rfl⟩ := u64_nat w5
  refine ⟨{ K := K, part := z1, last := z2, size := z3, S := S, turn := k5 }, hK, hS, b5, ?_⟩
  have s0 := drop_take_split C 0 32 (by omega)
  have s1 := drop_take_split C 32 1 (by omega)
  have s2 := drop_take_split C 33 1 (by omega)
  have s3 := drop_take_split C 34 1 (by omega)
  have s4 := drop_take_split C 35 32 (by omega)
  have s5 := drop_take_split C 67 1 (by omega)
  have s6 : C.drop 68 = [] := List.drop_of_length_le (by omega)
  have hCC : C = Lib.byteCells K ++ ([.int .i64 z1, .bool z2, .int .i64 z3] ++ (Lib.byteCells S ++ [.int .u64 k5])) := by
    have : C = C.drop 0 := rfl
    rw [this, s0, s1, s2, s3, s4, s5, s6, e0, e1, e2, e3, e4, e5]
    rfl
  unfold fragA fragL
  rw [← hCC, ← hC]
  simp [Value.cells]
end
end Go.Proofs.YtimpnnhadjfijaaDoor
