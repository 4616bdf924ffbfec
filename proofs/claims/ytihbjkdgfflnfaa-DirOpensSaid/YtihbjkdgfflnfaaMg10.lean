/-
  A fragment's head, an entry and sixteen bytes that came in, opened.
-/
import Derived.OpenShut
import Derived.Lib.SmallJoins
import Derived.Test.YtihbjkdgfflnfaaMg9
namespace Go.Proofs.Ytihbjkdgfflnfaa
open Go.RowKit CrcMath
open Go.WideShapes Go.ChangeAt

set_option maxRecDepth 100000
section
variable {H : Type} {W : World} {enc : TypeId × Value → H}
theorem byteArr_open {t : TypeId} {m fuel : Nat} {cs : List Value} {x : DataW H × List MemPlace} (ht : Try.prog.underlying t = some (.array m 5)) (hC : Try.prog.cellsOf t = m)
    (h : DataW.trod enc Try.prog W 0 (fun _ => true) true fuel t cs = some x) : ∃ X : List UInt8, X.length = m ∧ cs = Lib.byteCells X := by
  obtain ⟨xs, n, _, _, hl, hlen, hf⟩ := DataW.trod_array ht h
  have h1 : Try.prog.cellsOf 5 = 1 := cells_one.1
  rw [hC] at hl
  have hk : ∀ i, i < m → ∃ k : Nat, k < 256 ∧ cs[i]? = some (.int .u8 (k : Int)) := by
    intro i hi
    have := hf i hi
    rw [h1, Nat.mul_one, List.getElem?_eq_getElem (by omega)] at this
    obtain ⟨z, h2, _, hw⟩ := DataW.trod_int Try.underlying5 this
    obtain ⟨k, hk, rfl⟩ := u8_nat hw
    refine ⟨k, hk, ?_⟩
    have := congrArg (fun l => l[0]?) h2
    simpa [List.getElem?_take, List.getElem?_drop] using this
  refine ⟨cs.map fun v => match v with | .int _ z => UInt8.ofNat z.toNat | _ => 0, by simpa using hl, ?_⟩
  apply List.ext_getElem?
  intro i
  by_cases hi : i < m
  · obtain ⟨k, hk, hc⟩ := hk i hi
    unfold Lib.byteCells
    rw [List.getElem?_map, List.getElem?_map, hc]
    have e : (UInt8.ofNat ((k : Int)).toNat).toNat = k := by rw [Int.toNat_natCast, UInt8.toNat_ofNat']; omega
    show some (Value.int .u8 (k : Int)) = some (Value.int .u8 ((UInt8.ofNat ((k : Int)).toNat).toNat : Int))
    rw [e]
  · rw [List.getElem?_eq_none (by omega), List.getElem?_eq_none (by simp [Lib.byteCells]; omega)]
theorem entry_open {v : Value} {d : DataW H} {p : List MemPlace} {r : Reach} {b0 : Nat} (hv : Value.okWide Try.prog W r b0 41 v) (h : DataW.Trod enc Try.prog W 0 (fun _ => true) true 41 v d p) :
    ∃ tag at_ sec turn : Nat, tag < 65536 ∧ at_ < 4294967296 ∧ sec < 65536 ∧ turn < 18446744073709551616 ∧ v = entryV tag at_ sec turn := by
  obtain ⟨v0, v1, v2, v3, y0, y1, y2, y3, n, rfl, _, _, t0, t1, t2, t3⟩ := Joins.open_agg4 Try.underlying41 (by kernel_rfl) (by kernel_rfl) hv h
  obtain ⟨z0, e0, _, w0⟩ := DataW.trod_int Try.underlying30 t0
  obtain ⟨z1, e1, _, w1⟩ := DataW.trod_int Try.underlying31 t1
  obtain ⟨z2, e2, _, w2⟩ := DataW.trod_int Try.underlying30 t2
  obtain ⟨z3, e3, _, w3⟩ := DataW.trod_int Try.underlying32 t3
  obtain ⟨k0, b0, rfl⟩ := u16_nat w0
  obtain ⟨k1, b1, rfl⟩ := u32_nat w1
  obtain ⟨k2, b2, rfl⟩ := u16_nat w2
  obtain ⟨k3, b3, rfl⟩ := u64_nat w3
  injection e0 with e0; injection e1 with e1; injection e2 with e2; injection e3 with e3
  subst e0; subst e1; subst e2; subst e3
  exact ⟨k0, k1, k2, k3, b0, b1, b2, b3, rfl⟩
end
end Go.Proofs.Ytihbjkdgfflnfaa
