/-
  ShaSums: any bytes' sum is the reference's.
-/
import Derived.Test.YtfejnjgdgdhckaaShaKnown
import Derived.Test.YtfejnjgdgdhckaaZeros
namespace Go.Proofs.Ytfejnjgdgdhckaa
open Go.RowKit

theorem key_self (X : List UInt8) (h : X.length = 32) (w : World) : (Op.equalIn 10000 25 (.agg (bytesV X)) (.agg (bytesV X))).run Try.prog w = .ok true w := by
  rw [key_equal X X h h, decide_eq_true rfl]
theorem Row8.own {B : Nat} {w : World} {v : Value} {d : List UInt8} (h : Row8 B w v d) : OwnBytes w v d := by
  refine ⟨h.1, ?_⟩
  rcases h.2 with h2 | ⟨g, cap, cur, h1, _, h3⟩
  · exact .inl h2
  · exact .inr ⟨g, cap, cur, h1, Nat.zero_le _, h3⟩
/-- append(v, make([]byte, k)...). -/
theorem zeros_run {B : Nat} {w : World} {v : Value} {d : List UInt8} (h : Row8 B w v d) (k : Nat) (hk : 0 < k) (hlen : d.length + k ≤ 140737488355328) (ty : TypeId) :
    ∃ ao c' w', (Builtin.append_ #[22, 3] ty #[v, .int .i64 k]).run Try.prog w = .ok (.slice ao (d.length + k) c') w' ∧ BytesAt w' ao (d ++ List.replicate k 0) ∧ (ao = none → c' = 0) ∧ d.length + k ≤ c' ∧ Spares (atLeast B) w w' := by
  obtain ⟨ao, c', w', h1, h2, h3, _⟩ := append_zeros h.own k hk hlen ty
  obtain ⟨a2, c2, e, _, _⟩ := OwnBytes.shape h2
  refine ⟨ao, c', w', h1, h2.bytes.1, h2.bytes.2, ?_, row8_grown h h3⟩
  rcases h2.2 with ⟨e, e2⟩ | ⟨g, cap, cur, e, _, _, hc, _⟩
  · injection e with e1 e2 e3; simp at e2; omega
  · injection e with e1 e2 e3; subst e3; rw [List.length_append, List.length_replicate] at hc; exact hc
theorem zeros_none (a : Option Addr) (n c : Nat) (h : n ≤ c) (ty : TypeId) (w : World) : (Builtin.append_ #[22, 3] ty #[.slice a n c, .int .i64 0]).run Try.prog w = .ok (.slice a n c) w := by
  have hw : IntKind.i64.wrap 0 = 0 := by decide
  cases a <;> simp [Builtin.append_, run_underlying Try.underlying22, run_underlying Try.underlying3, asInt, asIntOf, hw, h, go_sem, storeCells, Question.forced]
theorem zeros_any {B : Nat} {w : World} {v : Value} {d : List UInt8} (h : Row8 B w v d) (k : Nat) (hlen : d.length + k ≤ 140737488355328) (ty : TypeId) :
    ∃ ao c' w', (Builtin.append_ #[22, 3] ty #[v, .int .i64 k]).run Try.prog w = .ok (.slice ao (d.length + k) c') w' ∧ BytesAt w' ao (d ++ List.replicate k 0) ∧ (ao = none → c' = 0) ∧ d.length + k ≤ c' ∧ Spares (atLeast B) w w' := by
  by_cases hk : 0 < k
  · exact zeros_run h k hk hlen ty
  · obtain rfl : k = 0 := by omega
    obtain ⟨ao, c', rfl, h1, h2, h3⟩ := h.shape
    exact ⟨ao, c', w, zeros_none ao d.length c' h3 ty w, by simpa using h1, h2, by omega, Spares.refl _ _⟩
/-- append(v, make([]byte, k)...), in the walk. -/
theorem wpList_row_zeros {w : World} {ops : Array Oper} {rest : List Oper} {o : Oper} {a : Act} {Q : Exit → Act → World → Prop} (hgd : o.guard = none) (s x : Operand)
    (ho : o.op = .call { callee := .builtin .append, args := #[s, x], argTypes := #[22, 3] })
    (B : Nat) (v : Value) (d : List UInt8) (hs : a.eval s = v) (hown : Row8 B w v d) (k : Nat) (hx : a.eval x = .int .i64 k) (hlen : d.length + k ≤ 140737488355328)
    (hK : ∀ ao c' w', BytesAt w' ao (d ++ List.replicate k 0) → (ao = none → c' = 0) → d.length + k ≤ c' → Spares (atLeast B) w w' → wpList Try.prog ops Q rest (a.put o.dst (.slice ao (d.length + k) c')) w') : wpList Try.prog ops Q (o :: rest) a w := by
  obtain ⟨ao, c', w', h1, h2, h3, h4, h5⟩ := zeros_any hown k hlen o.type
  exact Lib.wpList_append_run w hgd s x 22 3 ho v (.int .i64 k) hs hx _ w' h1 (hK ao c' w' h2 h3 h4 h5)
set_option maxRecDepth 100000 in
set_option maxHeartbeats 1000000 in
theorem sums_any (a : Option Addr) (n c : Nat) (l : List UInt8) (k : Nat) (w : World) (hl : BytesAt w a l) (hn : n = l.length) (hnc : n ≤ c) (hnil : a = none → c = 0) (hk : k < 256) (hmax : n < 9223372036854775808) :
    Calls Try.prog 3 #[.slice a n c, .int .u8 k] w fun e w' => e = .returned (.bool true) ∧ Spares nowhere w w' := by
  have HL := Lib.hid hl
  have HN := Lib.hid hn
  have HNIL := Lib.hid hnil
  have HK := Lib.hid (known_any w)
  clear hl hn hnil
  go_enter Try.func3, Try.ntmps3
  go_wp2_with fail
  refine HK.out.mono ?_
  rintro e w1 ⟨rfl, hs1⟩
  have HS1 := Lib.hid hs1
  clear hs1 HK
  by_cases hbig : 2000 < n
  · have i1 : (2000 : Int) < (n : Int) := by omega
    go_wp2
    go_ret
    exact ⟨rfl, HS1.out⟩
  · have i1 : ¬ (2000 : Int) < (n : Int) := by omega
    have i2 : (n : Int) ≤ 2000 := by omega
    have hl0 : l.length + k ≤ 140737488355328 := by have := HN.out; omega
    go_wp2_with (first
      | ((with_reducible show wpList _ _ _ (⟨some 12, _, _, _, _, _⟩ :: _) _ _); refine wpList_row_bytes rfl _ _ rfl w1.heap.size _ [] rfl (row8_nil _ _) a c n l rfl HN.out (HL.out.spares HS1.out (fun _ _ _ h => h)) HNIL.out (by simp; omega) (Nat.le_refl _) ?_; intro v2 w2 hr2 hs2; have HR2 := Lib.hid hr2; have HS2 := Lib.hid hs2; clear hr2 hs2)
      | ((with_reducible show wpList _ _ _ (⟨some 15, _, _, _, _, _⟩ :: _) _ _); refine wpList_row_zeros rfl _ _ rfl w1.heap.size v2 l rfl HR2.out k rfl hl0 ?_; intro a3 c3 w3 hb3 hn3 hc3 hs3; have HB3 := Lib.hid hb3; have HN3 := Lib.hid hn3; have HC3 := Lib.hid hc3; have HS3 := Lib.hid hs3; clear hb3 hn3 hc3 hs3))
    obtain ⟨L, hL⟩ : ∃ L, l ++ List.replicate k (0 : UInt8) = L := ⟨_, rfl⟩
    have hLl : L.length = l.length + k := by rw [← hL]; simp
    rw [hL] at HB3
    have HS3n : Hid (Spares nowhere w w3) := Lib.hid ((HS1.out.trans' HS2.out (fun b hb => .inr (Nat.le_trans HS1.out.size hb))).trans' HS3.out (fun b hb => .inr (Nat.le_trans HS1.out.size hb)))
    have HA := Lib.hid (sum_any a n c l w3 (HL.out.spares HS3n.out (fun _ _ _ h => h)) HN.out (by omega) hnc)
    obtain ⟨m, hm⟩ : ∃ m, l.length + k = m := ⟨_, rfl⟩
    have hm2 : m ≤ 3000 := by rw [← hm]; have := HN.out; omega
    rw [hm]
    rw [hm] at HC3 hLl hl0
    have k1 := key_self (shaF l) (shaF_len l)
    have k2 := key_self (shaF L) (shaF_len L)
    clear hL hm HR2 HS2 HS3
    refine HA.out.mono ?_
    rintro e w4 ⟨rfl, hs4⟩
    have HS4 := Lib.hid (HS3n.out.trans hs4)
    have HB4 := Lib.hid (HB3.out.spares hs4 (fun _ _ _ h => h))
    have HC := Lib.hid (refSum_any a n c l w4 (HL.out.spares HS4.out (fun _ _ _ h => h)) HN.out (by omega) HNIL.out)
    clear hs4 HA HB3 HS3n
    go_wp2_with fail
    refine HC.out.mono ?_
    rintro e w5 ⟨rfl, hs5⟩
    have HS5 := Lib.hid (HS4.out.trans hs5)
    have HB5 := Lib.hid (HB4.out.spares hs5 (fun _ _ _ h => h))
    have HD := Lib.hid (sum_any a3 m c3 L w5 HB5.out hLl.symm (by omega) HC3.out)
    clear hs5 HC HB4 HS4
    go_wp2_with fail
    refine HD.out.mono ?_
    rintro e w6 ⟨rfl, hs6⟩
    have HS6 := Lib.hid (HS5.out.trans hs6)
    have HB6 := Lib.hid (HB5.out.spares hs6 (fun _ _ _ h => h))
    have HE := Lib.hid (refSum_any a3 m c3 L w6 HB6.out hLl.symm (by omega) HN3.out)
    clear hs6 HD HB5 HS5
    go_wp2_with fail
    refine HE.out.mono ?_
    rintro e w7 ⟨rfl, hs7⟩
    have HS7 := Lib.hid (HS6.out.trans hs7)
    clear hs7
    go_wp2
    go_ret
    exact ⟨rfl, HS7.out⟩
theorem u8_nat {x : Int} (h : (Lit.int .u8 x).wf = true) : ∃ k : Nat, k < 256 ∧ x = (k : Int) := by
  simp [Lit.wf] at h
  have e1 : IntKind.u8.min = 0 := by decide
  have e2 : IntKind.u8.max = 255 := by decide
  rw [e1, e2] at h
  exact ⟨x.toNat, by omega, by omega⟩
end Go.Proofs.Ytfejnjgdgdhckaa
