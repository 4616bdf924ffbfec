/-
  The reference's Put: a number's bytes, the highest first, behind a row.
-/
import Derived.Test.YtimpnnhadjfijaaDoorShaRefPad
namespace Go.Proofs.YtimpnnhadjfijaaDoor
open Go.RowKit

/-- append(v, x...) of a string, as one step of a region that draws its order. -/
theorem step_row_str {ops : Array Oper} {o : Oper} {a : Act} {w : World} {K : Act → World → Prop} {Q : Exit → Act → World → Prop} {E : Prop} (hgd : o.guard = none) (s x : Operand)
    (ho : o.op = .call { callee := .builtin .append, args := #[s, x], argTypes := #[27, 9] })
    (B : Nat) (v : Value) (d : List UInt8) (hs : a.eval s = v) (hown : Row8 B w v d)
    (t : ByteArray) (hx : a.eval x = .string t) (hlen : d.length + t.size ≤ 140737488355328) (hB : B ≤ w.heap.size)
    (hK : ∀ v' w', Row8 B w' v' (d ++ t.data.toList) → Spares (atLeast B) w w' → K (a.put o.dst v') w') : if Region.wanted o (yielded ops a.tmps) = true then Oper.wp Tryd.prog o a w K Q else E := by
  have hw : Region.wanted o (yielded ops a.tmps) = true := by simp [Region.wanted, hgd]
  rw [if_pos hw]
  obtain ⟨i0, hi, hz0, hz1, hz2⟩ := info_parts byteInfo
  obtain ⟨v', w', hr, h1, h2, _⟩ := Lib.run_append_own_string (P := Tryd.prog) w B 27 9 o.type 5 i0 Tryd.underlying27 Tryd.underlying9 hi hz0 hz1 hz2 v d.length (Lib.byteCells d) hown t (by unfold maxLen; omega) (by omega) hB
  unfold Oper.wp
  simp [execOp, ho, resolve, invoke, builtin, hs, hx, hr, Result.andThen]
  refine hK v' w' ?_ (row8_grown hown h2)
  unfold Row8
  rw [List.length_append, byteCells_app]
  have e : t.data.toList.length = t.size := by rw [Array.length_toList]; rfl
  rw [e]
  exact h1
def beN (k M : Nat) : List UInt8 := (List.range k).map fun i => UInt8.ofNat (M / 256 ^ (k - 1 - i))
theorem beN_len (k M : Nat) : (beN k M).length = k := by simp [beN]
theorem beN_take (k M j i : Nat) (hj : j < k) (hi : k - 1 - j = i) : (beN k M).take (j + 1) = (beN k M).take j ++ [UInt8.ofNat (M / 256 ^ i)] := by
  rw [List.take_add_one, List.getElem?_eq_getElem (by rw [beN_len]; exact hj), ← hi]
  simp [beN]
set_option maxRecDepth 100000 in
set_option maxHeartbeats 1000000 in
theorem put_any (B : Nat) (v : Value) (d : List UInt8) (M k : Nat) (w : World) (hr : Row8 B w v d) (hB : B ≤ w.heap.size) (hk : k ≤ 8) (hd : d.length + k ≤ 140737488355328) :
    Calls Tryd.prog 27 #[v, .int .u64 M, .int .i64 k] w fun e w' => ∃ v', e = .returned v' ∧ Row8 B w' v' (d ++ beN k M) ∧ Spares (atLeast B) w w' := by
  have HR := Lib.hid hr
  have HD := Lib.hid hd
  clear hr hd
  have HR0 : Hid (Row8 B w v (d ++ (beN k M).take 0)) := Lib.hid (by rw [List.take_zero, List.append_nil]; exact HR.out)
  go_enter Tryd.func27, Tryd.ntmps27
  go_wp2
  go_loopw [0, 7] (fun v i wr => ∃ j : Nat, j ≤ k ∧ i = .int .i64 ((k : Int) - 1 - (j : Int)) ∧ Hid (Row8 B wr v (d ++ (beN k M).take j)) ∧ Hid (Spares (atLeast B) w wr)) (fun _ i _ => (intOf i + 1).toNat)
  case atStart => exact ⟨0, by omega, by simp, HR0, Lib.hid (Spares.refl _ _)⟩
  clear HR0 HR
  case round =>
    obtain ⟨j, hj, rfl, HR1, HS1⟩ := hrel
    by_cases hlt : j < k
    · obtain ⟨i, hi⟩ : ∃ i : Nat, k - 1 - j = i := ⟨_, rfl⟩
      have hii : (k : Int) - 1 - (j : Int) = (i : Int) := by omega
      rw [hii]
      obtain ⟨s, hs⟩ : ∃ s : Nat, 8 * i = s := ⟨_, rfl⟩
      have hsi : (8 : Int) * (i : Int) = (s : Int) := by omega
      have hs0 : s < 64 := by omega
      have hB1 := Nat.le_trans hB HS1.out.size
      obtain ⟨x, hx⟩ : ∃ x, UInt8.ofNat (M / 256 ^ i) = x := ⟨_, rfl⟩
      have hbt := byte_shift M i s hs
      rw [hx] at hbt
      have hbw : IntKind.u8.wrap ((M : Int) / 2 ^ s) = (x.toNat : Int) := by rw [← hbt, IntKind.wrap_u8]
      obtain ⟨Y, hY⟩ : ∃ Y, d ++ (beN k M).take j = Y := ⟨_, rfl⟩
      rw [hY] at HR1
      have hYl : Y.length + 1 ≤ 140737488355328 := by rw [← hY, List.length_append, List.length_take, beN_len]; have := HD.out; omega
      have HNXT : Hid (d ++ (beN k M).take (j + 1) = Y ++ [x]) := Lib.hid (by rw [beN_take k M j i hlt hi, ← List.append_assoc, hY, hx])
      have HYL := Lib.hid hYl
      have hj2 : (i : Int) - 1 = (k : Int) - 1 - ((j + 1 : Nat) : Int) := by omega
      have HJ2 := Lib.hid hj2
      clear hx hY hYl hi hii hs hj2
      go_wp2_with ((with_reducible show wpList _ _ _ (⟨some 21, _, _, _, _, _⟩ :: _) _ _); refine wpList_row_one rfl _ _ rfl B _ Y rfl HR1.out x _ rfl rfl HYL.out hB1 ?_; intro v9 w9 hr9 hs9; have HR9 := Lib.hid hr9; have HS9 := Lib.hid hs9; clear hr9 hs9)
      go_roundw
      case rel =>
        exact ⟨j + 1, by omega, by rw [HJ2.out], by rw [HNXT.out]; exact HR9, Lib.hid (HS1.out.trans HS9.out)⟩
      case measure => simp [intOf]
    · obtain rfl : j = k := by omega
      have e1 : (j : Int) - 1 - (j : Int) = -1 := by omega
      rw [e1]
      have HRF : Hid (Row8 B wr u0 (d ++ beN j M)) := Lib.hid (by
        have := HR1.out
        rw [List.take_of_length_le (by rw [beN_len]; omega)] at this
        exact this)
      go_wp2
      go_ret
      exact ⟨_, rfl, HRF.out, HS1.out⟩
theorem beN_four (z : Nat) : beN 4 z = [UInt8.ofNat (z / 256 ^ 3), UInt8.ofNat (z / 256 ^ 2), UInt8.ofNat (z / 256 ^ 1), UInt8.ofNat (z / 256 ^ 0)] := rfl
end Go.Proofs.YtimpnnhadjfijaaDoor
