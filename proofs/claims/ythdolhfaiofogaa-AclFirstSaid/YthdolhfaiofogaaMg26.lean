/-
  A rule, a request and rules that came in, opened.
-/
import Derived.OpenShut
import Derived.Lib.SmallJoins
import Derived.Test.YthdolhfaiofogaaMg20
import Derived.Test.YthdolhfaiofogaaMg25
namespace Go.Proofs.Ythdolhfaiofogaa
open Go.RowKit GlobMath
open Go.WideShapes Go.ChangeAt

section
variable {H : Type} {W : World} {enc : TypeId × Value → H}
theorem rule_open {v : Value} {d : DataW H} {p : List MemPlace} {r : Reach} {b0 : Nat} (hv : Value.okWide Try.prog W r b0 23 v) (h : DataW.Trod enc Try.prog W 0 (fun _ => true) true 23 v d p) :
    ∃ x : RuleR, v = ruleA x.allow x.method x.host x.path ∧ x.method.size ≤ 9223372036854775807 ∧ x.host.size ≤ 9223372036854775807 ∧ x.path.size ≤ 9223372036854775807 := by
  obtain ⟨v0, v1, v2, v3, y0, y1, y2, y3, n, rfl, _, _, t0, t1, t2, t3⟩ := Joins.open_agg4 Try.underlying23 (by kernel_rfl) (by kernel_rfl) hv h
  obtain ⟨z0, e0, _⟩ := DataW.trod_bool Try.underlying4 t0
  obtain ⟨z1, e1, _, w1⟩ := DataW.trod_string Try.underlying9 t1
  obtain ⟨z2, e2, _, w2⟩ := DataW.trod_string Try.underlying9 t2
  obtain ⟨z3, e3, _, w3⟩ := DataW.trod_string Try.underlying9 t3
  injection e0 with e0; injection e1 with e1; injection e2 with e2; injection e3 with e3
  subst e0; subst e1; subst e2; subst e3
  exact ⟨⟨z0, z1, z2, z3⟩, rfl, w1, w2, w3⟩
theorem slice_len {t e : TypeId} {v : Value} {y : DataW H × List MemPlace} {fuel : Nat} (ht : Try.prog.underlying t = some (.slice e)) (hf : DataW.trod enc Try.prog W 0 (fun _ => true) true fuel t [v] = some y) :
    ∃ a n c, v = .slice a n c ∧ n ≤ 9223372036854775807 := by
  rcases Deep.open_slice ht hf with ⟨hcs, _⟩ | ⟨x, len', cap', m, n, D, Pl, hcs, _, h1, h2, _⟩
  · injection hcs with hcs; exact ⟨_, _, _, hcs, Nat.zero_le _⟩
  · injection hcs with hcs; exact ⟨_, _, _, hcs, Nat.le_trans h1 h2⟩
theorem fieldsAt_in {w : World} {a : Option Addr} {fs : List (ByteArray × ByteArray)} (h : FieldsAt w a fs) : HeadS.FieldsIn w.heap.size w a fs := by
  intro j hj
  obtain ⟨b, off, h1, h2, h3⟩ := h j hj
  exact ⟨b, off, h1, cell_in h2, h2, h3⟩
theorem request_open {v : Value} {d : DataW H} {p : List MemPlace} {r : Reach} {b0 : Nat} (hv : Value.okWide Try.prog W r b0 38 v) (h : DataW.Trod enc Try.prog W 0 (fun _ => true) true 38 v d p) :
    ∃ (m t : ByteArray) (fa : Option Addr) (fc : Nat) (fs : List (ByteArray × ByteArray)) (ba : Option Addr) (bn bc : Nat), v = reqV m t (.slice fa fs.length fc) (.slice ba bn bc) ∧ HeadS.FieldsIn W.heap.size W fa fs ∧
      fs.length < 9223372036854775808 ∧ (∀ j (h : j < fs.length), (fs[j]).1.size ≤ 9223372036854775807 ∧ (fs[j]).2.size ≤ 9223372036854775807) ∧ bn < 9223372036854775808 ∧ m.size ≤ 9223372036854775807 ∧ t.size ≤ 9223372036854775807 := by
  obtain ⟨v0, v1, v2, v3, y0, y1, y2, y3, n, rfl, _, _, t0, t1, t2, t3⟩ := Joins.open_agg4 Try.underlying38 (by kernel_rfl) (by kernel_rfl) hv h
  obtain ⟨z0, e0, _, w0⟩ := DataW.trod_string Try.underlying9 t0
  obtain ⟨z1, e1, _, w1⟩ := DataW.trod_string Try.underlying9 t1
  obtain ⟨fs, fa, fc, rfl, hat, hl, _, _, hsz⟩ := fields_of_trod t2
  obtain ⟨ba, bn, bc, rfl, hb⟩ := slice_len Try.underlying36 t3
  injection e0 with e0; injection e1 with e1
  subst e0; subst e1
  have hmax : maxLen = 9223372036854775807 := rfl
  rw [hmax] at hl
  exact ⟨z0, z1, fa, fc, fs, ba, bn, bc, rfl, fieldsAt_in hat, by omega, hsz, by omega, w0, w1⟩
theorem rules_open {d : DataW H} {p : List MemPlace} {fuel : Nat} {a : Option Addr} {len cap : Nat}
    (hf : DataW.trod enc Try.prog W 0 (fun _ => true) true fuel 26 (Value.slice a len cap).cells.toList = some (d, p)) :
    ∃ l : List RuleR, l.length = len ∧ RulesAt W a l ∧ len ≤ 9223372036854775807 ∧ len ≤ cap ∧ (a = none → cap = 0) := by
  obtain ⟨h1, h2, h3, h4⟩ := structs_open Try.underlying26 Try.underlying23 (by kernel_rfl) (by kernel_rfl) (by decide) hf
  have hx : ∀ i : Fin len, ∃ x : RuleR, ∃ b off, a = some ⟨b, off, none⟩ ∧ W.cell? ⟨b, off + i.val * 4, none⟩ = some (.bool x.allow) ∧ W.cell? ⟨b, off + i.val * 4 + 1, none⟩ = some (.string x.method) ∧ W.cell? ⟨b, off + i.val * 4 + 2, none⟩ = some (.string x.host) ∧ W.cell? ⟨b, off + i.val * 4 + 3, none⟩ = some (.string x.path) := by
    intro i
    obtain ⟨b, off, ha, n, hj⟩ := h4 i.val i.isLt
    obtain ⟨v0, y0, hc0, t0⟩ := hj 0 _ rfl
    obtain ⟨v1, y1, hc1, t1⟩ := hj 1 _ rfl
    obtain ⟨v2, y2, hc2, t2⟩ := hj 2 _ rfl
    obtain ⟨v3, y3, hc3, t3⟩ := hj 3 _ rfl
    obtain ⟨z0, e0, _⟩ := DataW.trod_bool Try.underlying4 t0
    obtain ⟨z1, e1, _⟩ := DataW.trod_string Try.underlying9 t1
    obtain ⟨z2, e2, _⟩ := DataW.trod_string Try.underlying9 t2
    obtain ⟨z3, e3, _⟩ := DataW.trod_string Try.underlying9 t3
    injection e0 with e0; injection e1 with e1; injection e2 with e2; injection e3 with e3
    subst e0; subst e1; subst e2; subst e3
    exact ⟨⟨z0, z1, z2, z3⟩, b, off, ha, hc0, hc1, hc2, hc3⟩
  refine ⟨List.ofFn fun i => Classical.choose (hx i), by simp, ?_, h1, h2, h3⟩
  intro k hk
  have hk' : k < len := by simpa using hk
  obtain ⟨b, off, ha, c0, c1, c2, c3⟩ := Classical.choose_spec (hx ⟨k, hk'⟩)
  exact ⟨b, off, ha, by simpa using c0, by simpa using c1, by simpa using c2, by simpa using c3⟩
end
end Go.Proofs.Ythdolhfaiofogaa
