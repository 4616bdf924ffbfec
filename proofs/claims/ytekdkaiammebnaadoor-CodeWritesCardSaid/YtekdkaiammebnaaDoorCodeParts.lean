/-
  The parts that came in: how they lie, and which are light.
-/
import Derived.Test.YtekdkaiammebnaaDoorCodeLight
import Derived.Test.YtekdkaiammebnaaDoorCodeAFields
import Derived.Test.YtekdkaiammebnaaDoorCodeRows
import Derived.Test.YtekdkaiammebnaaDoorStructs
import Derived.Lib.SmallJoins
namespace Go.Proofs.CodeMath
/-- A part as it came in. -/
structure PT where
  what : UInt8
  n : Nat
  b : List UInt8
  l : Fs
def PT.part (p : PT) : PartF := if p.what.toNat % 3 = 0 then .num p.n else if p.what.toNat % 3 = 1 then .text p.b else .fields p.l
def PT.light (p : PT) : Prop := U64 p.n ∧ p.b.length ≤ 200 ∧ p.l.length ≤ 6 ∧ ∀ j (h : j < p.l.length), (p.l[j]).1.size ≤ 300 ∧ (p.l[j]).2.size ≤ 300
theorem PT.light.field {p : PT} (h : p.light) : ∀ f ∈ p.l, f.1.size ≤ 300 ∧ f.2.size ≤ 300 := by
  intro f hf
  obtain ⟨j, hj, rfl⟩ := List.getElem_of_mem hf
  exact h.2.2.2 j hj
theorem fields_len300 : ∀ (fs : Fs), (∀ f ∈ fs, f.1.size ≤ 300 ∧ f.2.size ≤ 300) → (fs.flatMap fieldF).length ≤ fs.length * 620
  | [], _ => by simp
  | f :: fs, h => by
    have h1 := h f (List.mem_cons_self ..)
    have h2 := fields_len300 fs (fun g hg => h g (List.mem_cons_of_mem _ hg))
    have e : (fieldF f).length = (textF f.1.data.toList).length + (textF f.2.data.toList).length := by unfold fieldF; rw [List.length_append]
    have h3 := textF_len f.1.data.toList
    have h4 := textF_len f.2.data.toList
    rw [size_list] at h3 h4
    rw [List.flatMap_cons, List.length_append, List.length_cons, e]
    omega
theorem PT.light.len {p : PT} (h : p.light) : p.part.bytes.length ≤ 4000 := by
  unfold PT.part
  split
  · show (numF p.n).length ≤ 4000
    have := numF_len p.n; omega
  · split
    · show (textF p.b).length ≤ 4000
      have := textF_len p.b; have := h.2.1; omega
    · show (fieldsF p.l).length ≤ 4000
      have h1 := fields_len300 p.l h.field
      have h2 := numF_len p.l.length
      have h3 := h.2.2.1
      unfold fieldsF
      rw [List.length_append]
      omega
def partsOf (ps : List PT) : List PartF := ps.map PT.part
theorem partsOf_len (ps : List PT) (h : ∀ p ∈ ps, p.light) : (partsF (partsOf ps)).length ≤ ps.length * 4000 := by
  induction ps with
  | nil => simp [partsOf, partsF]
  | cons p ps ih =>
    have h1 := (h p (List.mem_cons_self ..)).len
    have h2 := ih (fun q hq => h q (List.mem_cons_of_mem _ hq))
    have e : partsF (partsOf (p :: ps)) = p.part.bytes ++ partsF (partsOf ps) := by simp [partsOf, partsF]
    rw [e, List.length_append, List.length_cons]
    omega
end Go.Proofs.CodeMath
namespace Go.Proofs.YtekdkaiammebnaaDoor
open Go.ChangeShapes Go.WideShapes Go.ChangeAt Go.RowKit CodeMath

/-- The slice that starts at a holds the parts ps. -/
def PartsAt (w : World) (a : Option Addr) (ps : List PT) : Prop :=
  ∀ k (h : k < ps.length), ∃ b off aB cB aL cL, a = some ⟨b, off, none⟩ ∧ w.cell? ⟨b, off + k * 4, none⟩ = some (.int .u8 (ps[k]).what.toNat) ∧ w.cell? ⟨b, off + k * 4 + 1, none⟩ = some (.int .u64 (ps[k]).n) ∧
    w.cell? ⟨b, off + k * 4 + 2, none⟩ = some (.slice aB (ps[k]).b.length cB) ∧ w.cell? ⟨b, off + k * 4 + 3, none⟩ = some (.slice aL (ps[k]).l.length cL) ∧ BytesAt w aB (ps[k]).b ∧ (aB = none → cB = 0) ∧ FieldsAt w aL (ps[k]).l
theorem FieldsAt.stay {w w' : World} {a : Option Addr} {l : Fs} (h : FieldsAt w a l) (hs : Spares nowhere w w') : FieldsAt w' a l := h.spares hs (fun _ _ _ _ h => h)
theorem PartsAt.stay {w w' : World} {a : Option Addr} {ps : List PT} (h : PartsAt w a ps) (hs : Spares nowhere w w') : PartsAt w' a ps := by
  intro k hk
  obtain ⟨b, off, aB, cB, aL, cL, e, h0, h1, h2, h3, h4, h5, h6⟩ := h k hk
  have hb := cell_lt h0
  exact ⟨b, off, aB, cB, aL, cL, e, (hs.cell (p := ⟨b, off + k * 4, none⟩) hb (fun h => h)).trans h0, (hs.cell (p := ⟨b, off + k * 4 + 1, none⟩) hb (fun h => h)).trans h1, (hs.cell (p := ⟨b, off + k * 4 + 2, none⟩) hb (fun h => h)).trans h2,
    (hs.cell (p := ⟨b, off + k * 4 + 3, none⟩) hb (fun h => h)).trans h3, h4.stay hs (fun _ _ h => h), h5, h6.stay hs⟩
def Wide (p : PT) : Prop := U64 p.n ∧ p.b.length ≤ maxLen ∧ p.l.length ≤ maxLen ∧ ∀ j (h : j < p.l.length), (p.l[j]).1.size ≤ maxLen ∧ (p.l[j]).2.size ≤ maxLen
theorem parts_open {H : Type} {enc : TypeId × Value → H} {W : World} {d : DataW H} {p : List MemPlace} {fuel : Nat} {a : Option Addr} {len cap : Nat}
    (hf : DataW.trod enc Tryd.prog W 0 (fun _ => true) true fuel 22 (Value.slice a len cap).cells.toList = some (d, p)) :
    ∃ ps : List PT, ps.length = len ∧ PartsAt W a ps ∧ len ≤ maxLen ∧ ∀ j (h : j < ps.length), Wide ps[j] := by
  obtain ⟨h1, h2, h3, h4⟩ := structs_open Tryd.underlying22 Tryd.underlying31 (by kernel_rfl) (by kernel_rfl) (by decide) hf
  have hx : ∀ i : Fin len, ∃ q : PT, (∃ b off aB cB aL cL, a = some ⟨b, off, none⟩ ∧ W.cell? ⟨b, off + i.val * 4, none⟩ = some (.int .u8 q.what.toNat) ∧ W.cell? ⟨b, off + i.val * 4 + 1, none⟩ = some (.int .u64 q.n) ∧
      W.cell? ⟨b, off + i.val * 4 + 2, none⟩ = some (.slice aB q.b.length cB) ∧ W.cell? ⟨b, off + i.val * 4 + 3, none⟩ = some (.slice aL q.l.length cL) ∧ BytesAt W aB q.b ∧ (aB = none → cB = 0) ∧ FieldsAt W aL q.l) ∧ Wide q := by
    intro i
    obtain ⟨b, off, ha, n, hj⟩ := h4 i.val i.isLt
    obtain ⟨v0, y0, hc0, ht0⟩ := hj 0 _ rfl
    obtain ⟨v1, y1, hc1, ht1⟩ := hj 1 _ rfl
    obtain ⟨v2, y2, hc2, ht2⟩ := hj 2 _ rfl
    obtain ⟨v3, y3, hc3, ht3⟩ := hj 3 _ rfl
    obtain ⟨z0, e0, _, g0⟩ := DataW.trod_int Tryd.underlying5 ht0
    obtain ⟨z1, e1, _, g1⟩ := DataW.trod_int Tryd.underlying28 ht1
    injection e0 with e0 _
    injection e1 with e1 _
    subst e0; subst e1
    obtain ⟨lb, aB, cB, rfl, f1, f2, f3⟩ := bytes_of_trod ht2
    obtain ⟨lf, aL, cL, rfl, f4, f5, _, _, f6⟩ := fields_of_trod ht3
    have b0 : 0 ≤ z0 ∧ z0 ≤ 255 := by have := bounds_u8 g0; omega
    have b1 : 0 ≤ z1 ∧ z1 ≤ 18446744073709551615 := by have := bounds_u64 g1; omega
    refine ⟨⟨UInt8.ofNat z0.toNat, z1.toNat, lb, lf⟩, ⟨b, off, aB, cB, aL, cL, ha, ?_, ?_, hc2, hc3, f1, f2, f4⟩, ?_, f3, f5, f6⟩
    · have e : ((UInt8.ofNat z0.toNat).toNat : Int) = z0 := by rw [UInt8.toNat_ofNat']; omega
      rw [e]; exact hc0
    · have e : ((z1.toNat : Nat) : Int) = z1 := by omega
      show _ = some (Value.int .u64 ((z1.toNat : Nat) : Int))
      rw [e]; exact hc1
    · show z1.toNat < 18446744073709551616
      omega
  refine ⟨List.ofFn fun i => Classical.choose (hx i), by simp, ?_, h1, ?_⟩
  · intro k hk
    have hk' : k < len := by simpa using hk
    obtain ⟨hq, _⟩ := Classical.choose_spec (hx ⟨k, hk'⟩)
    simpa using hq
  · intro j hj
    have hj' : j < len := by simpa using hj
    have := (Classical.choose_spec (hx ⟨j, hj'⟩)).2
    simpa using this

def LitP (ps : List PT) (w : World) (e : Ending) (w' : World) : Prop := ∃ b : Bool, e = .returned (.bool b) ∧ w' = w ∧ (b = true → ps.length ≤ 20 ∧ ∀ p ∈ ps, p.light)
set_option maxRecDepth 100000 in
set_option maxHeartbeats 1000000 in
theorem lightParts_any (ps : List PT) (a : Option Addr) (c n : Nat) (w : World) (hat : PartsAt w a ps) (hn : n = ps.length) (hm : ps.length ≤ maxLen) (hw : ∀ j (h : j < ps.length), Wide ps[j]) :
    Calls Tryd.prog 9 #[.slice a n c] w (LitP ps w) := by
  have HA := Lib.hid hat
  have HN := Lib.hid hn
  have HW := Lib.hid hw
  have hn63 : n ≤ 9223372036854775807 := by unfold maxLen at hm; omega
  clear hat hn hw hm
  by_cases hbig : 20 < n
  · have i1 : (20 : Int) < (n : Int) := by omega
    go_enter Tryd.func9, Tryd.ntmps9
    go_wp2
    go_ret
    exact ⟨false, rfl, rfl, fun h => by cases h⟩
  have i1 : ¬ (20 : Int) < (n : Int) := by omega
  go_enter Tryd.func9, Tryd.ntmps9
  go_wp2
  go_loopw [3] (fun i wr => ∃ k : Nat, k ≤ n ∧ i = .int .i64 k ∧ wr = w ∧ Hid (∀ j (h : j < ps.length), j < k → (ps[j]).light)) (fun i _ => n - (intOf i).toNat)
  case atStart => exact ⟨0, by omega, rfl, rfl, Lib.hid (fun j _ h => by omega)⟩
  case round =>
    obtain ⟨k, hk, rfl, rfl, HSM⟩ := hrel
    by_cases hlt : k < n
    · have hk2 : k < ps.length := by have := HN.out; omega
      obtain ⟨b, off, aB, cB, aL, cL, rfl, hc0, hc1, hc2, hc3, h4, h5, h6⟩ := HA.out k hk2
      have hwk := HW.out k hk2
      obtain ⟨q, hq⟩ : ∃ q, ps[k] = q := ⟨_, rfl⟩
      rw [hq] at hc2 hc3 h6 hwk
      have HQ := Lib.hid hq
      obtain ⟨w1, w2, w3, w4⟩ := hwk
      unfold maxLen at w2 w3 w4
      have HW1 := Lib.hid w1
      obtain ⟨bl, hbl⟩ : ∃ m, q.b.length = m := ⟨_, rfl⟩
      obtain ⟨ll, hll⟩ : ∃ m, q.l.length = m := ⟨_, rfl⟩
      have HL := Lib.hid (light_any q.l aL cL ll 6 wr h6 hll.symm (by omega) (by omega) (fun j h => w4 j h))
      have HBL := Lib.hid hbl
      rw [hbl] at hc2 w2
      rw [hll] at hc3 w3
      have j1 : (k : Int) < (n : Int) := by omega
      clear hc0 hc1 h4 h5 h6 w4 hbl hll hq w1
      by_cases h1 : 200 < bl
      · have j3 : (200 : Int) < (bl : Int) := by omega
        have j3d : decide ((200 : Int) < (bl : Int)) = true := by simpa using j3
        go_wp2
        go_ret
        exact ⟨false, rfl, rfl, fun h => by cases h⟩
      have j3 : ¬ (200 : Int) < (bl : Int) := by omega
      go_wp2_with fail
      refine HL.out.mono ?_
      rintro e w5 ⟨x, rfl, rfl, hx⟩
      cases x with
      | false =>
        clear hx
        go_wp2
        go_ret
        exact ⟨false, rfl, rfl, fun h => by cases h⟩
      | true =>
        have HX := Lib.hid (hx rfl)
        clear hx
        go_wp2
        go_roundw
        case rel =>
          refine ⟨k + 1, by omega, by go_num, trivial, Lib.hid (fun j h hj => ?_)⟩
          by_cases e : j = k
          · subst e
            rw [HQ.out]
            exact ⟨HW1.out, by have := HBL.out; omega, HX.out.1, HX.out.2⟩
          · exact HSM.out j h (by omega)
        case measure => simp [intOf]; omega
    · obtain rfl : k = n := by omega
      go_wp2
      go_ret
      exact ⟨true, rfl, rfl, fun _ => ⟨by have := HN.out; omega, fun p hp => by
        obtain ⟨j, hj, rfl⟩ := List.getElem_of_mem hp
        exact HSM.out j hj (by have := HN.out; omega)⟩⟩
end Go.Proofs.YtekdkaiammebnaaDoor
