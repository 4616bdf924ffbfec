/-
  What a listed table of integers holds, and a slice of bytes that came in.
-/
import Derived.ProofKit
import Derived.OpenShut
import Derived.LaidSub
import Derived.MakeChecks
import Derived.Test.YtihbjkdgfflnfaaMg1
namespace Go.Proofs.Ytihbjkdgfflnfaa
open Go.ChangeShapes Go.WideShapes Go.ChangeAt Go.RowKit

theorem laid_mem {P : Program} {w : World} {n : String} {d : DataW Unit} {l : List (String × DataW Unit)} {ps : List MemPlace} (h : DataW.LaidVars P w l ps) (hm : (n, d) ∈ l) :
    ∃ g t cs fuel p, P.globalNamed n = some g ∧ (P.globals[g]?).map (·.type) = some t ∧ w.var? P n = some cs ∧ DataW.trod (fun _ => ()) P w 0 (fun _ => true) false fuel t cs.toList = some (d, p) := by
  induction l generalizing ps with
  | nil => cases hm
  | cons x l ih =>
    obtain ⟨n', d'⟩ := x
    obtain ⟨g, t, cs, fuel, p, q, h1, h2, h3, h4, h5, _⟩ := h
    rcases List.mem_cons.1 hm with e | hm
    · injection e with e1 e2
      subst e1; subst e2
      exact ⟨g, t, cs, fuel, p, h1, h2, h3, h4⟩
    · exact ih h5 hm
theorem int_of_trod' {H : Type} {enc : TypeId × Value → H} {P : Program} {w : World} {base : Nat} {sp : Nat → Bool} {held : Bool} {fuel : Nat} {t : TypeId} {k : IntKind} {z : Int} {cs : List Value} {p : List MemPlace}
    (ht : P.underlying t = some (.int k)) (h : DataW.trod enc P w base sp held fuel t cs = some (.lit (.int k z), p)) : cs = [.int k z] := by
  cases fuel with
  | zero => simp [DataW.trod] at h
  | succ fuel =>
    unfold DataW.trod at h
    rw [ht] at h
    split at h <;> simp_all
/-- A listed array of integers: what its cells hold. -/
theorem ints_of_laid {P : Program} {W : World} {laid : List (String × DataW Unit)} {n : String} {g : Nat} {t e : TypeId} {k : IntKind} {zs : List Int} {m : Nat} (h : laidMet P laid W) (hm : (n, (.agg (zs.map fun z => .lit (.int k z)) : DataW Unit)) ∈ laid)
    (hg : P.globalNamed n = some g) (ht : (P.globals[g]?).map (·.type) = some t) (hu : P.underlying t = some (.array m e)) (hc : P.cellsOf e = 1) (he : P.underlying e = some (.int k)) :
    ∀ i, i < zs.length → W.cell? ⟨g, i, none⟩ = some (.int k (zs.getD i 0)) := by
  obtain ⟨ps, hl, _⟩ := h
  obtain ⟨g', t', cs, fuel, p, h1, h2, h3, h4⟩ := laid_mem hl hm
  obtain rfl := Option.some.inj (h1.symm.trans hg)
  obtain rfl := Option.some.inj (h2.symm.trans ht)
  obtain ⟨xs, m', _, hx, hlen, hxl, hi⟩ := DataW.trod_array hu h4
  intro i hlt
  rw [World.var?_cell h1 h3 i]
  injection hx with hx _
  injection hx with hx
  have hzl : zs.length = xs.length := by
    have := congrArg List.length hx
    simpa using this
  have hxi : i < xs.length := by omega
  have hx1 : (xs[i]).1 = .lit (.int k zs[i]) := by
    have := congrArg (fun l => l[i]?) hx
    simp only [List.getElem?_map, List.getElem?_eq_getElem hlt, List.getElem?_eq_getElem hxi, Option.map_some] at this
    exact (Option.some.inj this).symm
  have h5 := hi i (by omega)
  rw [hc, Nat.mul_one, List.getElem?_eq_getElem hxi] at h5
  obtain ⟨d, q, hd⟩ : ∃ d q, xs[i] = (d, q) := ⟨_, _, rfl⟩
  rw [hd] at h5 hx1
  simp only at hx1
  subst hx1
  have h6 := int_of_trod' he h5
  have h7 : cs.toList[i]? = some (.int k zs[i]) := by
    have := congrArg (fun l => l[0]?) h6
    simpa [List.getElem?_take, List.getElem?_drop] using this
  rw [List.getD_eq_getElem?_getD, List.getElem?_eq_getElem hlt]
  simpa using h7

/-- A slice of bytes that came in: its bytes. -/
theorem bytes_open {H : Type} {W : World} {enc : TypeId × Value → H} {v : Value} {d : DataW H} {p : List MemPlace} {fuel : Nat} {a : Option Addr} {len cap : Nat} (hv : v = .slice a len cap)
    (hf : DataW.trod enc Try.prog W 0 (fun _ => true) true fuel 49 v.cells.toList = some (d, p)) :
    ∃ l : List UInt8, l.length = len ∧ BytesAt W a l ∧ (a = none → cap = 0) ∧ len ≤ maxLen ∧ len ≤ cap := by
  subst hv
  rcases open_ints Try.underlying49 Try.underlying5 (by kernel_rfl) hf with ⟨hcs, _⟩ | ⟨x, l, c, zs, hcs, _, hl, hm, hz, _, hcell, hwz⟩
  · simp [Value.cells] at hcs
    obtain ⟨rfl, rfl, rfl⟩ := hcs
    exact ⟨[], rfl, bytesAt_nil W _, fun _ => rfl, Nat.zero_le _, Nat.le_refl _⟩
  · simp [Value.cells] at hcs
    obtain ⟨rfl, rfl, rfl⟩ := hcs
    have hzl : zs.length = cap := by simpa using hz
    have hb : ∀ i, i < zs.length → 0 ≤ zs.getD i 0 ∧ zs.getD i 0 ≤ 255 := by
      intro i hi
      have hw := hwz (zs.getD i 0) (by rw [List.getD_eq_getElem?_getD, List.getElem?_eq_getElem hi]; exact List.getElem_mem hi)
      simpa [Lit.wf, IntKind.wrap, IntKind.bits, IntKind.signed] using bounds_u8 hw
    refine ⟨(zs.take len).map fun z => UInt8.ofNat z.toNat, by simp; omega, ?_, (fun e => by cases e), by omega, hl⟩
    · intro k hk
      have hk' : k < zs.length := by simp at hk; omega
      obtain ⟨b, off, rfl, hc⟩ := ints_at hcell (by omega)
      have h1 := hb k hk'
      have h2 := hc k hk'
      refine ⟨b, off, rfl, h2.trans ?_⟩
      have e : (((zs.take len).map fun z => UInt8.ofNat z.toNat)[k]).toNat = (zs.getD k 0).toNat := by
        rw [List.getElem_map, List.getElem_take, List.getD_eq_getElem?_getD, List.getElem?_eq_getElem hk', Option.getD_some, UInt8.toNat_ofNat']
        rw [List.getD_eq_getElem?_getD, List.getElem?_eq_getElem hk', Option.getD_some] at h1
        omega
      rw [e, Int.toNat_of_nonneg h1.1]
end Go.Proofs.Ytihbjkdgfflnfaa
