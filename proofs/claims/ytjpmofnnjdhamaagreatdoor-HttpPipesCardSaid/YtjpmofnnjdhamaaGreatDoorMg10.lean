/-
  Fields written as lines, in the program.
  The statements' first test: constants.
  Fields left out and put, in the program.
  ambryhelp.Light: few fields, none long.
-/
import Derived.Test.YtjpmofnnjdhamaaGreatDoorProg
import Derived.WalkKit
import Derived.ProofKit
import Derived.OpenShut
import Derived.Deep.Slices
import Derived.Deep.Fields
import Derived.ChangeSame
import Derived.Test.YtjpmofnnjdhamaaGreatDoorMg8
import Derived.Test.YtjpmofnnjdhamaaGreatDoorMg9
namespace Go.Proofs.YtjpmofnnjdhamaaGreatDoor.HeadS
open Go.RowKit HeadMath

def lineF (f : ByteArray × ByteArray) : List UInt8 := f.1.data.toList ++ ([58, 32] ++ (f.2.data.toList ++ [13, 10]))
def linesF (l : List (ByteArray × ByteArray)) : List UInt8 := l.flatMap lineF
theorem linesF_take {l : List (ByteArray × ByteArray)} {k : Nat} (h : k < l.length) : linesF (l.take (k + 1)) = linesF (l.take k) ++ lineF l[k] := by
  unfold linesF
  rw [List.take_succ_eq_append_getElem h, List.flatMap_append]
  simp
theorem built_empty {w : World} : Lib.IsBuilder 115 5 w.heap.size w.heap.size [] (w.alloc (.cells #[.pointer none, .slice none 0 0] 115)) := Lib.fresh_isBuilder _ _ w

set_option maxHeartbeats 4000000 in
theorem lines_any (l : List (ByteArray × ByteArray)) (a : Option Addr) (cap : Nat) (w : World) (hin : FieldsIn w.heap.size w a l) (hle : l.length ≤ 1000000) (hsz : ∀ j (h : j < l.length), l[j].1.size ≤ 1000000 ∧ l[j].2.size ≤ 1000000) :
    Calls Tryz.prog 63 #[.slice a l.length cap] w fun e w' => e = .returned (.string ⟨(linesF l).toArray⟩) ∧ Below w.heap.size w w' := by
  have HIN := Lib.hid hin
  have hc1 : ({ data := #[58, 32] } : ByteArray).size = 2 := rfl
  have hc2 : ({ data := #[13, 10] } : ByteArray).size = 2 := rfl
  clear hin
  go_enter Tryz.func63, Tryz.ntmps63
  go_wp2
  go_loopw [8] (fun i wr => ∃ (k : Nat) (d : List UInt8), k ≤ l.length ∧ i = .int .i64 k ∧ Hid (linesF (l.take k) = d) ∧ d.length ≤ k * 2000004 ∧ Hid (Lib.IsBuilder 115 5 w.heap.size w.heap.size (Lib.byteCells d) wr) ∧ Below w.heap.size w wr ∧ w.heap.size < wr.heap.size)
    (fun i _ => l.length - (intOf i).toNat)
  case atStart => exact ⟨0, [], Nat.zero_le _, rfl, Lib.hid rfl, Nat.zero_le _, Lib.hid built_empty, (Below.refl _ _).alloc (Nat.le_refl _) _, by simp⟩
  case round =>
    obtain ⟨k, d, hk, rfl, HD, hd, HB, hb, hlt0⟩ := hrel
    by_cases hlt : k < l.length
    · obtain ⟨b, off, rfl, hbl, hc1', hc2'⟩ := HIN.out k hlt
      have x0 := (hb.cell (p := ⟨b, off + k * 2, none⟩) hbl).trans hc1'
      have x1 := (hb.cell (p := ⟨b, off + k * 2 + 1, none⟩) hbl).trans hc2'
      have hs1 := hsz k hlt
      clear hc1' hc2'
      have HN := Lib.hid (linesF_take hlt)
      obtain ⟨nm, vl, hf⟩ : ∃ nm vl, l[k] = (nm, vl) := ⟨_, _, rfl⟩
      have HF := Lib.hid hf
      simp only [hf] at x0 x1 hs1
      clear hf
      have hb' := hb.alloc (o := .cells #[.string nm, .string vl] 59) hb.size
      have HBa : Hid (Lib.IsBuilder 115 5 w.heap.size w.heap.size (Lib.byteCells d) (wr.alloc (.cells #[.string nm, .string vl] 59))) := Lib.hid (by
        have h := HB.out
        rcases h with ⟨h0, v, h1, h2, h3⟩ | ⟨h0, v, h1, h2, h3⟩
        · exact .inl ⟨h0, v, (Lib.alloc_old wr _ _ hlt0).trans h1, h2.alloc _, h3⟩
        · exact .inr ⟨h0, v, (Lib.alloc_old wr _ _ hlt0).trans h1, h2.alloc _, h3⟩)
      have hF := MBlk.new wr 59 #[.string nm, .string vl] (0, 0)
      go_wp2_with fail
      refine (writeString_any w.heap.size w.heap.size _ nm _ HBa.out (by rw [Lib.byteCells_length]; omega) hb'.size).mono ?_
      rintro e w1 ⟨rfl, hB1, hb1, hk1⟩
      have HB1 := Lib.hid hB1
      have hF1 := hk1 _ _ hF (by simp; omega) (by simp)
      replace hb1 := hb'.trans hb1
      clear hB1 hk1 x0 x1
      go_wp2_with fail
      refine (writeString_any w.heap.size w.heap.size _ _ w1 (Or.inr HB1.out) (by simp only [List.length_append, Lib.byteCells_length, Lib.strCells_length]; rw [hc1]; omega) hb1.size).mono ?_
      rintro e w2 ⟨rfl, hB2, hb2, hk2⟩
      have HB2 := Lib.hid hB2
      have hF2 := hk2 _ _ hF1 (by simp; omega) (by simp)
      have y1 : w2.cell? ⟨wr.heap.size, 1, none⟩ = some (.string vl) := MBlk.cell (t := 59) (cs := #[.string nm, .string vl]) (r := (0, 0)) hF2 1
      replace hb2 := hb1.trans hb2
      clear hB2 hk2 hF1
      go_wp2_with fail
      refine (writeString_any w.heap.size w.heap.size _ vl w2 (Or.inr HB2.out) (by simp only [List.length_append, Lib.byteCells_length, Lib.strCells_length]; rw [hc1]; omega) hb2.size).mono ?_
      rintro e w3 ⟨rfl, hB3, hb3, hk3⟩
      have HB3 := Lib.hid hB3
      replace hb3 := hb2.trans hb3
      clear hB3 hk3
      go_wp2_with fail
      refine (writeString_any w.heap.size w.heap.size _ _ w3 (Or.inr HB3.out) (by simp only [List.length_append, Lib.byteCells_length, Lib.strCells_length]; rw [hc1, hc2]; omega) hb3.size).mono ?_
      rintro e w4 ⟨rfl, hB4, hb4, hk4⟩
      have HB4 := Lib.hid hB4
      replace hb4 := hb3.trans hb4
      have hlt4 : w.heap.size < w4.heap.size := by
        obtain ⟨_, v, h1, _⟩ := HB4.out
        rcases Nat.lt_or_ge w.heap.size w4.heap.size with h | h
        · exact h
        · rw [Array.getElem?_eq_none h] at h1; cases h1
      clear hB4 hk4
      go_wp2
      go_roundw
      case rel =>
        refine ⟨k + 1, d ++ lineF (nm, vl), by omega, by go_num, Lib.hid (by rw [HN.out, HD.out, HF.out]), ?_, Lib.hid (Or.inr ?_), hb4, hlt4⟩
        · simp [lineF]; omega
        · have h := HB4.out
          simpa [lineF, Lib.byteCells, Lib.strCells] using h
      case measure => simp [intOf]; omega
    · have HG := Lib.hid (show linesF l = d from by have := HD.out; rwa [List.take_of_length_le (by omega)] at this)
      go_wp2_with fail
      refine (Tryz.Builder_String_any w.heap.size w.heap.size d _ HB.out hb.size).mono ?_
      rintro e w1 ⟨rfl, hb1⟩
      go_wp2
      go_ret
      rw [HG.out]
      exact ⟨rfl, hb.trans hb1⟩
end Go.Proofs.YtjpmofnnjdhamaaGreatDoor.HeadS
namespace Go.Proofs.YtjpmofnnjdhamaaGreatDoor.HeadS
open Go.RowKit HeadMath

theorem fieldCells_at : ∀ (l : List (ByteArray × ByteArray)) (k : Nat) (h : k < l.length), (fieldCells l)[k * 2]? = some (.string l[k].1) ∧ (fieldCells l)[k * 2 + 1]? = some (.string l[k].2)
  | [], k, h => absurd h (by simp)
  | x :: l, 0, _ => by simp [fieldCells]
  | x :: l, k + 1, h => by
    have ih := fieldCells_at l k (by simpa using h)
    have e : ∀ j, (fieldCells (x :: l))[j + 2]? = (fieldCells l)[j]? := fun j => by simp [fieldCells]
    rw [show (k + 1) * 2 = k * 2 + 2 from by omega, show k * 2 + 2 + 1 = (k * 2 + 1) + 2 from by omega, e, e]
    exact ih
theorem fieldsIn_own {w : World} {base g c : Nat} {e : TypeId} {fs : List (ByteArray × ByteArray)} (h : w.ownsRow base e 2 (.slice (some ⟨g, 0, none⟩) fs.length c) fs.length (fieldCells fs)) : FieldsIn w.heap.size w (some ⟨g, 0, none⟩) fs := by
  intro j hj
  have hc := fieldCells_at fs j hj
  refine ⟨g, 0, rfl, (h.lt g rfl).2, ?_, ?_⟩
  · rw [Nat.zero_add, World.ownsRow.cellAt h _ (by omega)]; exact hc.1
  · rw [Nat.zero_add, World.ownsRow.cellAt h _ (by omega)]; exact hc.2
theorem FieldsIn.below {w w' : World} {B B' : Nat} {a : Option Addr} {l : List (ByteArray × ByteArray)} (h : FieldsIn B w a l) (hb : Below B w w') (hB : B ≤ B') : FieldsIn B' w' a l := by
  intro j hj
  obtain ⟨b, off, h1, h2, h3, h4⟩ := h j hj
  exact ⟨b, off, h1, Nat.lt_of_lt_of_le h2 hB, (hb.cell (p := ⟨b, off + j * 2, none⟩) h2).trans h3, (hb.cell (p := ⟨b, off + j * 2 + 1, none⟩) h2).trans h4⟩
theorem strsIn_own {w : World} {base g c : Nat} {e : TypeId} {r : List ByteArray} (h : w.ownsRow base e 1 (.slice (some ⟨g, 0, none⟩) r.length c) r.length (strCells r)) : StrsIn w.heap.size w (some ⟨g, 0, none⟩) r := by
  intro j hj
  refine ⟨g, 0, rfl, (h.lt g rfl).2, ?_⟩
  rw [Nat.zero_add, World.ownsRow.cellAt h _ (by omega), strCells_at hj]
theorem StrsIn.below {w w' : World} {B B' : Nat} {a : Option Addr} {l : List ByteArray} (h : StrsIn B w a l) (hb : Below B w w') (hB : B ≤ B') : StrsIn B' w' a l := by
  intro j hj
  obtain ⟨b, off, h1, h2, h3⟩ := h j hj
  exact ⟨b, off, h1, Nat.lt_of_lt_of_le h2 hB, (hb.cell (p := ⟨b, off + j, none⟩) h2).trans h3⟩
theorem strsIn_lit (w : World) (t : TypeId) (ls : List ByteArray) : StrsIn (w.alloc (.cells (strCells ls).toArray t)).heap.size (w.alloc (.cells (strCells ls).toArray t)) (some ⟨w.heap.size, 0, none⟩) ls := by
  intro j hj
  have hB := MBlk.new w t (strCells ls).toArray (0, 0)
  refine ⟨w.heap.size, 0, rfl, hB.lt, ?_⟩
  rw [Nat.zero_add, hB.cell j]
  have := strCells_at hj
  simpa using this

end Go.Proofs.YtjpmofnnjdhamaaGreatDoor.HeadS
namespace Go.Proofs.YtjpmofnnjdhamaaGreatDoor.HeadS
open Go.RowKit HeadMath

abbrev Fs := List (ByteArray × ByteArray)
def inNames (ns : List ByteArray) (nm : ByteArray) : Bool := ns.any fun n => sameF nm.data.toList n.data.toList
theorem inNames_no {ns : List ByteArray} {nm : ByteArray} (h : ∀ j (h : j < ns.length), sameF nm.data.toList ns[j].data.toList = false) : inNames ns nm = false := by
  unfold inNames
  rw [List.any_eq_false]
  intro n hn
  obtain ⟨j, hj, rfl⟩ := List.getElem_of_mem hn
  rw [h j hj]; simp
theorem inNames_yes {ns : List ByteArray} {nm : ByteArray} {k : Nat} (hk : k < ns.length) (h : sameF nm.data.toList ns[k].data.toList = true) : inNames ns nm = true := by
  unfold inNames
  rw [List.any_eq_true]
  exact ⟨ns[k], List.getElem_mem hk, h⟩
def dropF (ns : List ByteArray) (l : Fs) : Fs := l.filter fun f => !inNames ns f.1
theorem dropF_yes {ns : List ByteArray} {l : Fs} {k : Nat} (h : k < l.length) (ht : inNames ns l[k].1 = true) : dropF ns (l.take (k + 1)) = dropF ns (l.take k) := by
  unfold dropF
  rw [List.take_succ_eq_append_getElem h, List.filter_append]
  simp [ht]
theorem dropF_no {ns : List ByteArray} {l : Fs} {k : Nat} (h : k < l.length) (ht : inNames ns l[k].1 = false) : dropF ns (l.take (k + 1)) = dropF ns (l.take k) ++ [l[k]] := by
  unfold dropF
  rw [List.take_succ_eq_append_getElem h, List.filter_append]
  simp [ht]
theorem dropF_len (ns : List ByteArray) (l : Fs) : (dropF ns l).length ≤ l.length := List.length_filter_le _ _

theorem same_quiet (a b : ByteArray) (ha : a.size ≤ 140737488351232) (hb : b.size ≤ 140737488351232) (x : Bool) (hx : sameF a.data.toList b.data.toList = x) (w : World) (n : Nat) :
    Calls Tryz.prog 74 #[.string a, .string b] (w.drewN n) fun e w' => e = .returned (.bool x) ∧ ∃ m, w' = w.drewN m := by
  subst hx
  exact Calls.quiet_of ((same_any a b _ ha hb).mono fun e w' ⟨m, he, hw⟩ => ⟨he, m, hw⟩)
set_option maxHeartbeats 4000000 in
theorem named_any (nm vl : ByteArray) (ns : List ByteArray) (a : Option Addr) (cap n : Nat) (w : World) (hin : StrsIn w.heap.size w a ns) (hN : n = ns.length) (hsm : Small ns) (hle : ns.length ≤ 140737488351232) (hn : nm.size ≤ 140737488351232) :
    Calls Tryz.prog 114 #[.agg #[.string nm, .string vl], .slice a n cap] w fun e w' => e = .returned (.bool (inNames ns nm)) ∧ Below w.heap.size w w' := by
  have HIN := Lib.hid hin
  have HN := Lib.hid hN
  have HSM := Lib.hid hsm
  have hle2 : n ≤ 140737488351232 := by omega
  clear hin hN hsm hle
  go_enter Tryz.func114, Tryz.ntmps114
  go_wp2
  obtain ⟨w0, hw0⟩ : ∃ w0, w.alloc (.cells #[.string nm, .string vl] 59) = w0 := ⟨_, rfl⟩
  have hb0 : Below w.heap.size w w0 := by rw [← hw0]; exact (Below.refl _ w).alloc (Nat.le_refl _) _
  have hB := MBlk.new w 59 #[.string nm, .string vl] (0, 0)
  rw [hw0] at hB ⊢
  obtain ⟨q, hq⟩ : ∃ q, w.heap.size = q := ⟨_, rfl⟩
  rw [hq] at hB hb0 HIN ⊢
  have hc0 := hB.cell 0
  simp only [List.getElem?_toArray] at hc0
  have HC0 := Lib.hid (show w0.cell? ⟨q, 0, none⟩ = some (.string nm) from hc0)
  have HB0 := Lib.hid hb0
  have HQ := Lib.hid hq
  clear hw0 hB hc0 hb0 hq
  go_loopw [8] (fun i wr => ∃ k : Nat, k ≤ n ∧ i = .int .i64 k ∧ Hid (∀ j (h : j < ns.length), j < k → sameF nm.data.toList ns[j].data.toList = false) ∧ ∃ m, Hid (wr = w0.drewN m)) (fun i _ => n - (intOf i).toNat)
  case atStart => exact ⟨0, Nat.zero_le _, rfl, Lib.hid (fun j _ h => absurd h (Nat.not_lt_zero _)), 0, Lib.hid rfl⟩
  case round =>
    obtain ⟨k, hk, rfl, HA, m, HM⟩ := hrel
    by_cases hlt : k < n
    · have hlt2 : k < ns.length := by have := HN.out; omega
      obtain ⟨b, off, rfl, hbl, hc⟩ := HIN.out k hlt2
      have hs1 := HSM.out k hlt2
      obtain ⟨u, hu⟩ : ∃ u, ns[k] = u := ⟨_, rfl⟩
      rw [hu] at hc hs1
      have x0 : wr.cell? ⟨q, 0, none⟩ = some (.string nm) := by rw [HM.out]; exact HC0.out
      have x1 : wr.cell? ⟨b, off + k, none⟩ = some (.string u) := by rw [HM.out]; exact (HB0.out.cell (p := ⟨b, off + k, none⟩) hbl).trans hc
      have i1 : (k : Int) < (n : Int) := by omega
      have HU := Lib.hid hu
      obtain ⟨x, hx⟩ : ∃ x, sameF nm.data.toList u.data.toList = x := ⟨_, rfl⟩
      have HS := Lib.hid (same_quiet nm u hn hs1 x hx)
      have HX := Lib.hid hx
      clear hc hu hx
      go_wp2
      go_quiet ((go_at_call 74; exact HS.out _ _))
      cases x with
      | true =>
        have HF := Lib.hid (inNames_yes (ns := ns) (nm := nm) hlt2 (by rw [HU.out]; exact HX.out))
        go_wp2
        go_ret
        refine ⟨ret_bool HF.out.symm, ?_⟩
        rw [HQ.out, HM.out, World.drewN_drewN]
        exact below_drewN HB0.out _
      | false =>
        have HN2 := Lib.hid (show ∀ j (h : j < ns.length), j < k + 1 → sameF nm.data.toList ns[j].data.toList = false from fun j hj h => by
          by_cases hjk : j = k
          · subst hjk; rw [HU.out]; exact HX.out
          · exact HA.out j hj (by omega))
        go_wp2
        go_roundw
        case rel => exact ⟨k + 1, by omega, by go_num, HN2, _, Lib.hid (by rw [HM.out, World.drewN_drewN])⟩
        case measure => simp [intOf]; omega
    · have HF := Lib.hid (inNames_no (ns := ns) (nm := nm) (fun j hj => HA.out j hj (by have := HN.out; omega)))
      go_wp2
      go_ret
      refine ⟨ret_bool HF.out.symm, ?_⟩
      rw [HQ.out, HM.out]
      exact below_drewN HB0.out _

def FieldPost (w : World) (r : Fs) (e : Ending) (w' : World) : Prop :=
  ∃ v, e = .returned v ∧ w'.ownsRow w.heap.size 59 2 v r.length (fieldCells r) ∧ Below w.heap.size w w'
theorem ownsRow_base {w : World} {B B' : Nat} {e : TypeId} {size : Nat} {v : Value} {n : Nat} {xs : List Value} (h : w.ownsRow B e size v n xs) (hB : B' ≤ B) : w.ownsRow B' e size v n xs := by
  refine ⟨h.1, ?_⟩
  rcases h.2 with h0 | ⟨g, cap, cur, hv, hg, rest⟩
  · exact .inl h0
  · exact .inr ⟨g, cap, cur, hv, Nat.le_trans hB hg, rest⟩
set_option maxHeartbeats 4000000 in
theorem without_any (l : Fs) (ns : List ByteArray) (a aN : Option Addr) (cap capN n nN : Nat) (w : World) (hin : FieldsIn w.heap.size w a l) (hN : n = l.length) (hsm : SmallF l) (hle : l.length ≤ 1000000)
    (hins : StrsIn w.heap.size w aN ns) (hNN : nN = ns.length) (hsmN : Small ns) (hleN : ns.length ≤ 140737488351232) :
    Calls Tryz.prog 85 #[.slice a n cap, .slice aN nN capN] w (FieldPost w (dropF ns l)) := by
  obtain ⟨i0, hi, hz0, hz1, hz2⟩ := info_parts fieldInfo
  have HIN := Lib.hid hin
  have HN := Lib.hid hN
  have HSM := Lib.hid hsm
  have HINS := Lib.hid hins
  have HNN := Lib.hid hNN
  have HSMN := Lib.hid hsmN
  have hn0 : ({ data := #[] } : ByteArray).size = 0 := rfl
  have hle2 : n ≤ 1000000 := by omega
  clear hin hN hsm hins hNN hsmN hle
  go_enter Tryz.func85, Tryz.ntmps85
  go_wp2
  go_loopw [5, 10] (fun v i wr => ∃ (k : Nat) (r : Fs), k ≤ n ∧ i = .int .i64 k ∧ Hid (dropF ns (l.take k) = r) ∧ r.length ≤ k ∧ wr.ownsRow w.heap.size 59 2 v r.length (fieldCells r) ∧ Below w.heap.size w wr) (fun _ i _ => n - (intOf i).toNat)
  case atStart => exact ⟨0, [], Nat.zero_le _, rfl, Lib.hid rfl, Nat.le_refl _, World.ownsRow_nil _ _ _ _, Below.refl _ _⟩
  case round =>
    obtain ⟨k, r, hk, rfl, HA, hrl, hown, hb⟩ := hrel
    by_cases hlt : k < n
    · have hlt2 : k < l.length := by have := HN.out; omega
      obtain ⟨b, off, rfl, hbl, hc1, hc2⟩ := HIN.out k hlt2
      have hs1 := HSM.out k hlt2
      have x0 := (hb.cell (p := ⟨b, off + k * 2, none⟩) hbl).trans hc1
      have x1 := (hb.cell (p := ⟨b, off + k * 2 + 1, none⟩) hbl).trans hc2
      clear hc1 hc2
      obtain ⟨nm, vl, hf⟩ : ∃ nm vl, l[k] = (nm, vl) := ⟨_, _, rfl⟩
      have HF := Lib.hid hf
      simp only [hf] at x0 x1 hs1
      clear hf
      have hb' := hb.alloc (o := .cells #[.string nm, .string vl] 59) hb.size
      have hown' := hown.alloc (.cells #[.string nm, .string vl] 59)
      have hB := MBlk.new wr 59 #[.string nm, .string vl] (0, 0)
      obtain ⟨t, ht⟩ : ∃ t, inNames ns nm = t := ⟨_, rfl⟩
      have hins2 : StrsIn (wr.alloc (.cells #[.string nm, .string vl] 59)).heap.size (wr.alloc (.cells #[.string nm, .string vl] 59)) aN ns := (HINS.out).below hb' hb'.size
      have HCALL := Lib.hid (named_any nm vl ns aN capN nN _ hins2 HNN.out HSMN.out hleN hs1.1)
      have HT := Lib.hid ht
      have i1 : (k : Int) < (n : Int) := by omega
      clear ht hins2
      go_wp2_with fail
      refine HCALL.out.mono ?_
      rw [HT.out]
      rintro e w1 ⟨rfl, hbn⟩
      have hB1 : MBlk w1 wr.heap.size 59 #[.string nm, .string vl] (0, 0) := (hbn.block _ hB.lt).trans hB
      have hown1 := ownsRow_below hown' hbn
      have hb1 := hb'.trans (hbn.mono hb'.size)
      have hsz := hb1.size
      have y0 : w1.cell? ⟨wr.heap.size, 0, none⟩ = some (.string nm) := hB1.cell 0
      have y1 : w1.cell? ⟨wr.heap.size, 1, none⟩ = some (.string vl) := hB1.cell 1
      clear HCALL hbn hB hB1 hown hown' hb'
      cases t with
      | true =>
        have HG := Lib.hid (show dropF ns (l.take (k + 1)) = r from by rw [dropF_yes hlt2 (by rw [HF.out]; exact HT.out), HA.out])
        go_wp2
        go_roundw
        case rel => exact ⟨k + 1, r, by omega, by go_num, HG, by omega, hown1, hb1⟩
        case measure => simp [intOf]; omega
      | false =>
        have HG := Lib.hid (show dropF ns (l.take (k + 1)) = r ++ [(nm, vl)] from by rw [dropF_no hlt2 (by rw [HF.out]; exact HT.out), HA.out, HF.out])
        clear x0 x1
        go_wp2_with (at_builtin; refine wpList_append_own _ rfl _ _ 22 rfl w.heap.size 59 i0 (.agg #[.string ⟨#[]⟩, .string ⟨#[]⟩]) 2 32 Tryz.underlying22 hi hz0 hz1 hz2 rfl (by decide) _ _ _ rfl (hown1.alloc _) ⟨w1.heap.size, 0, none⟩ 1 1 [.string nm, .string vl] rfl rfl ?c1U ?c2U ?c3U ?c4U ?c5U ?_)
        case c1U =>
          intro j u hj
          match j, hj with
          | 0, hj => simp at hj; subst hj; simp [Addr.add]
          | 1, hj => simp at hj; subst hj; simp [Addr.add]
        case c2U => intro u hu; simp at hu; rcases hu with rfl | rfl <;> rfl
        case c3U => unfold maxLen; omega
        case c4U => omega
        case c5U => simp; omega
        intro v' w4 hown4 hgrow _
        have hb4 : Below w.heap.size w w4 := (hb1.alloc hsz _).grown hgrow (by simp; omega) (fun k hk => (hown1.lt k hk).1)
        clear hgrow hown1
        go_wp2
        go_roundw
        case rel =>
          refine ⟨k + 1, r ++ [(nm, vl)], by omega, by go_num, HG, by simp; omega, ?_, hb4⟩
          rw [fieldCells_snoc]; simpa using hown4
        case measure => simp [intOf]; omega
    · have HG := Lib.hid (show dropF ns l = r from by have := HA.out; rwa [List.take_of_length_le (by have := HN.out; omega)] at this)
      go_wp2
      go_ret
      rw [HG.out]
      exact ⟨_, rfl, hown, hb⟩
theorem small_one {x : ByteArray} (hx : x.size ≤ 140737488351232) : Small [x] := by
  intro j h
  have e : j = 0 := by simpa using h
  subst e
  exact hx
theorem strsIn_one (w : World) (t : TypeId) (x : ByteArray) : StrsIn (w.alloc (.cells #[.string x] t)).heap.size (w.alloc (.cells #[.string x] t)) (some ⟨w.heap.size, 0, none⟩) [x] := strsIn_lit w t [x]
set_option maxHeartbeats 1000000 in
theorem drop_any (l : Fs) (x : ByteArray) (a : Option Addr) (cap n : Nat) (w : World) (hin : FieldsIn w.heap.size w a l) (hN : n = l.length) (hsm : SmallF l) (hle : l.length ≤ 1000000) (hx : x.size ≤ 140737488351232) :
    Calls Tryz.prog 61 #[.slice a n cap, .string x] w (FieldPost w (dropF [x] l)) := by
  have hb0 := (Below.refl w.heap.size w).alloc (o := .cells #[.string x] 9) (Nat.le_refl _)
  have HIN := Lib.hid (hin.below hb0 hb0.size)
  have HN := Lib.hid hN
  have HSM := Lib.hid hsm
  have HB0 := Lib.hid hb0
  clear hin hN hsm hb0
  go_enter Tryz.func61, Tryz.ntmps61
  go_wp2_with fail
  refine (without_any l [x] a (some ⟨w.heap.size, 0, none⟩) cap 1 n 1 (w.alloc (.cells #[.string x] 9)) HIN.out HN.out HSM.out hle (strsIn_one w _ x) rfl (small_one hx) (by simp)).mono ?_
  rintro e w1 ⟨v, rfl, hown, hb1⟩
  have HO := Lib.hid (ownsRow_base hown HB0.out.size)
  have HB1 := Lib.hid (HB0.out.trans (hb1.mono HB0.out.size))
  clear hown hb1
  go_wp2
  go_ret
  exact ⟨_, rfl, HO.out, HB1.out⟩
end Go.Proofs.YtjpmofnnjdhamaaGreatDoor.HeadS
namespace Go.Proofs.YtjpmofnnjdhamaaGreatDoor.HeadS
open Go.ChangeShapes Go.WideShapes Go.ChangeAt Go.RowKit HeadMath

def Lit1 (fs : List (ByteArray × ByteArray)) (most : Nat) (w : World) (e : Ending) (w' : World) : Prop :=
  ∃ b : Bool, e = .returned (.bool b) ∧ w' = w ∧ (b = true → fs.length ≤ most ∧ ∀ j (h : j < fs.length), (fs[j]).1.size ≤ 300 ∧ (fs[j]).2.size ≤ 300)
set_option maxRecDepth 100000 in
set_option maxHeartbeats 1000000 in
theorem light_any (fs : List (ByteArray × ByteArray)) (a : Option Addr) (c n most : Nat) (w : World) (hat : FieldsIn w.heap.size w a fs) (hn : n = fs.length) (hn63 : n < 9223372036854775808) (hm : most < 9223372036854775808) (hsz : ∀ j (h : j < fs.length), (fs[j]).1.size ≤ 9223372036854775807 ∧ (fs[j]).2.size ≤ 9223372036854775807) :
    Calls Tryz.prog 28 #[.slice a n c, .int .i64 most] w (Lit1 fs most w) := by
  have HA := Lib.hid hat
  have HN := Lib.hid hn
  have HSZ := Lib.hid hsz
  clear hat hn hsz
  by_cases hbig : most < n
  · have i1 : (most : Int) < (n : Int) := by omega
    go_enter Tryz.func28, Tryz.ntmps28
    go_wp2
    go_ret
    exact ⟨false, rfl, rfl, fun h => by cases h⟩
  have i1 : ¬ (most : Int) < (n : Int) := by omega
  go_enter Tryz.func28, Tryz.ntmps28
  go_wp2
  go_loopw [5] (fun i wr => ∃ k : Nat, k ≤ n ∧ i = .int .i64 k ∧ wr = w ∧ Hid (∀ j (h : j < fs.length), j < k → (fs[j]).1.size ≤ 300 ∧ (fs[j]).2.size ≤ 300)) (fun i _ => n - (intOf i).toNat)
  case atStart => exact ⟨0, by omega, rfl, rfl, Lib.hid (fun j _ h => by omega)⟩
  case round =>
    obtain ⟨k, hk, rfl, rfl, HSM⟩ := hrel
    by_cases hlt : k < n
    · have hk2 : k < fs.length := by have := HN.out; omega
      obtain ⟨b, off, rfl, _, hc0, hc1⟩ := HA.out k hk2
      have hs := HSZ.out k hk2
      obtain ⟨s1, hs1⟩ : ∃ s, (fs[k]).1 = s := ⟨_, rfl⟩
      obtain ⟨s2, hs2⟩ : ∃ s, (fs[k]).2 = s := ⟨_, rfl⟩
      rw [hs1] at hc0 hs
      rw [hs2] at hc1 hs
      obtain ⟨z1, hz1⟩ : ∃ z, s1.size = z := ⟨_, rfl⟩
      obtain ⟨z2, hz2⟩ : ∃ z, s2.size = z := ⟨_, rfl⟩
      rw [hz1, hz2] at hs
      have HP := Lib.hid (show (fs[k]).1.size = z1 ∧ (fs[k]).2.size = z2 from ⟨by rw [hs1, hz1], by rw [hs2, hz2]⟩)
      have j1 : (k : Int) < (n : Int) := by omega
      clear hs1 hs2
      by_cases h1 : 300 < z1
      · have j3 : (300 : Int) < (z1 : Int) := by omega
        go_wp2
        go_ret
        exact ⟨false, rfl, rfl, fun h => by cases h⟩
      by_cases h2 : 300 < z2
      · have j3 : ¬ (300 : Int) < (z1 : Int) := by omega
        have j4 : (300 : Int) < (z2 : Int) := by omega
        go_wp2
        go_ret
        exact ⟨false, rfl, rfl, fun h => by cases h⟩
      have j3 : ¬ (300 : Int) < (z1 : Int) := by omega
      have j4 : ¬ (300 : Int) < (z2 : Int) := by omega
      go_wp2
      go_roundw
      case rel =>
        refine ⟨k + 1, by omega, by go_num, trivial, Lib.hid (fun j h hj => ?_)⟩
        by_cases e : j = k
        · subst e; rw [HP.out.1, HP.out.2]; omega
        · exact HSM.out j h (by omega)
      case measure => simp [intOf]; omega
    · obtain rfl : k = n := by omega
      go_wp2
      go_ret
      exact ⟨true, rfl, rfl, fun _ => ⟨by have := HN.out; omega, fun j h => HSM.out j h (by have := HN.out; omega)⟩⟩
def Drew (w : World) (v : Value) (e : Ending) (w' : World) : Prop := e = .returned v ∧ ∃ n, w' = w.drewN n
set_option maxRecDepth 100000 in
set_option maxHeartbeats 1000000 in
theorem fields_same (fs : List (ByteArray × ByteArray)) (a b : Option Addr) (c d : Nat) (w : World) (hx : FieldsIn w.heap.size w a fs) (hy : FieldsIn w.heap.size w b fs) (hl : fs.length ≤ 140737488355328) :
    Calls Tryz.prog 48 #[.slice a fs.length c, .slice b fs.length d] w (Drew w (.bool true)) := by
  have HX := Lib.hid hx
  have HY := Lib.hid hy
  obtain ⟨n, hn⟩ : ∃ n, fs.length = n := ⟨_, rfl⟩
  have HN := Lib.hid hn
  rw [hn] at hl ⊢
  have q : ((n : Int) != (n : Int)) = false := by simp
  clear hx hy hn
  go_enter Tryz.func48, Tryz.ntmps48
  go_wp2
  go_loopw [5] (fun i wr => ∃ k : Nat, k ≤ n ∧ i = .int .i64 k ∧ ∃ m, Hid (wr = w.drewN m)) (fun i _ => n - (intOf i).toNat)
  case atStart => exact ⟨0, Nat.zero_le _, rfl, 0, Lib.hid rfl⟩
  case round =>
    obtain ⟨k, hk, rfl, m, HM⟩ := hrel
    by_cases hlt : k < n
    · have hlt' : k < fs.length := by rw [HN.out]; exact hlt
      obtain ⟨b1, o1, rfl, _, hc1, hc2⟩ := HX.out k hlt'
      obtain ⟨b2, o2, rfl, _, hd1, hd2⟩ := HY.out k hlt'
      obtain ⟨u, hu⟩ : ∃ u, fs[k].1 = u := ⟨_, rfl⟩
      obtain ⟨v, hv⟩ : ∃ v, fs[k].2 = v := ⟨_, rfl⟩
      rw [hu] at hc1 hd1
      rw [hv] at hc2 hd2
      have hw := HM.out
      have x1 : wr.cell? ⟨b1, o1 + k * 2, none⟩ = some (.string u) := by rw [hw]; exact hc1
      have x2 : wr.cell? ⟨b1, o1 + k * 2 + 1, none⟩ = some (.string v) := by rw [hw]; exact hc2
      have y1 : wr.cell? ⟨b2, o2 + k * 2, none⟩ = some (.string u) := by rw [hw]; exact hd1
      have y2 : wr.cell? ⟨b2, o2 + k * 2 + 1, none⟩ = some (.string v) := by rw [hw]; exact hd2
      have t1 : (u.toList == u.toList) = true := by simp
      have t2 : (v.toList == v.toList) = true := by simp
      have i1 : (k : Int) < (n : Int) := by omega
      clear hw hc1 hc2 hd1 hd2 hu hv
      go_wp2
      go_quiet (fail)
      go_wp2
      go_roundw
      case rel => exact ⟨k + 1, by omega, by go_num, _, Lib.hid (by rw [HM.out, World.drewN_drewN])⟩
      case measure => simp [intOf]; omega
    · obtain rfl : k = n := by omega
      go_wp2
      go_ret
      exact ⟨rfl, m, HM.out⟩
end Go.Proofs.YtjpmofnnjdhamaaGreatDoor.HeadS
