/-
  Fields left out and put, in the program.
-/
import Derived.Test.YtckhjhgddnjfpaaDoorHeadKnown
namespace Go.Proofs.YtckhjhgddnjfpaaDoor
open Go.RowKit HeadMath

abbrev Fs := List (ByteArray × ByteArray)
def inNames (ns : List ByteArray) (nm : ByteArray) : Bool := ns.any fun n => sameF nm.data.toList n.data.toList
theorem inNames_no {ns : List ByteArray} {nm : ByteArray} (h : ∀ j (h : j < ns.length), sameF nm.data.toList ns[j].data.toList = false) : inNames ns nm = false := by
  unfold inNames
  rw [List.any_eq_false]
  intro n hn
  obtain ⟨j, hj, rfl⟩ := List.getElem_of_mem hn
  rw [h j hj]; simp
theorem inNames_yes {ns : List ByteArray} {nm : ByteArray} {k : Nat} (hk : k < ns.length) (h : sameF nm.data.toList ns[k].data.toList = true) : inNames ns nm = true := by
  unfold inNames
  rw [List.any_eq_true]
  exact ⟨ns[k], List.getElem_mem hk, h⟩
def dropF (ns : List ByteArray) (l : Fs) : Fs := l.filter fun f => !inNames ns f.1
theorem dropF_yes {ns : List ByteArray} {l : Fs} {k : Nat} (h : k < l.length) (ht : inNames ns l[k].1 = true) : dropF ns (l.take (k + 1)) = dropF ns (l.take k) := by
  unfold dropF
  rw [List.take_succ_eq_append_getElem h, List.filter_append]
  simp [ht]
theorem dropF_no {ns : List ByteArray} {l : Fs} {k : Nat} (h : k < l.length) (ht : inNames ns l[k].1 = false) : dropF ns (l.take (k + 1)) = dropF ns (l.take k) ++ [l[k]] := by
  unfold dropF
  rw [List.take_succ_eq_append_getElem h, List.filter_append]
  simp [ht]
theorem dropF_len (ns : List ByteArray) (l : Fs) : (dropF ns l).length ≤ l.length := List.length_filter_le _ _

theorem same_quiet (a b : ByteArray) (ha : a.size ≤ 140737488351232) (hb : b.size ≤ 140737488351232) (x : Bool) (hx : sameF a.data.toList b.data.toList = x) (w : World) (n : Nat) :
    Calls Tryd.prog 20 #[.string a, .string b] (w.drewN n) fun e w' => e = .returned (.bool x) ∧ ∃ m, w' = w.drewN m := by
  subst hx
  exact Calls.quiet_of ((same_any a b _ ha hb).mono fun e w' ⟨m, he, hw⟩ => ⟨he, m, hw⟩)
set_option maxHeartbeats 4000000 in
theorem named_any (nm vl : ByteArray) (ns : List ByteArray) (a : Option Addr) (cap n : Nat) (w : World) (hin : StrsIn w.heap.size w a ns) (hN : n = ns.length) (hsm : Small ns) (hle : ns.length ≤ 140737488351232) (hn : nm.size ≤ 140737488351232) :
    Calls Tryd.prog 57 #[.agg #[.string nm, .string vl], .slice a n cap] w fun e w' => e = .returned (.bool (inNames ns nm)) ∧ Below w.heap.size w w' := by
  have HIN := Lib.hid hin
  have HN := Lib.hid hN
  have HSM := Lib.hid hsm
  have hle2 : n ≤ 140737488351232 := by omega
  clear hin hN hsm hle
  go_enter Tryd.func57, Tryd.ntmps57
  go_wp2
  obtain ⟨w0, hw0⟩ : ∃ w0, w.alloc (.cells #[.string nm, .string vl] 48) = w0 := ⟨_, rfl⟩
  have hb0 : Below w.heap.size w w0 := by rw [← hw0]; exact (Below.refl _ w).alloc (Nat.le_refl _) _
  have hB := MBlk.new w 48 #[.string nm, .string vl] (0, 0)
  rw [hw0] at hB ⊢
  obtain ⟨q, hq⟩ : ∃ q, w.heap.size = q := ⟨_, rfl⟩
  rw [hq] at hB hb0 HIN ⊢
  have hc0 := hB.cell 0
  simp only [List.getElem?_toArray] at hc0
  have HC0 := Lib.hid (show w0.cell? ⟨q, 0, none⟩ = some (.string nm) from hc0)
  have HB0 := Lib.hid hb0
  have HQ := Lib.hid hq
  clear hw0 hB hc0 hb0 hq
  go_loopw [8] (fun i wr => ∃ k : Nat, k ≤ n ∧ i = .int .i64 k ∧ Hid (∀ j (h : j < ns.length), j < k → sameF nm.data.toList ns[j].data.toList = false) ∧ ∃ m, Hid (wr = w0.drewN m)) (fun i _ => n - (intOf i).toNat)
  case atStart => exact ⟨0, Nat.zero_le _, rfl, Lib.hid (fun j _ h => absurd h (Nat.not_lt_zero _)), 0, Lib.hid rfl⟩
  case round =>
    obtain ⟨k, hk, rfl, HA, m, HM⟩ := hrel
    by_cases hlt : k < n
    · have hlt2 : k < ns.length := by have := HN.out; omega
      obtain ⟨b, off, rfl, hbl, hc⟩ := HIN.out k hlt2
      have hs1 := HSM.out k hlt2
      obtain ⟨u, hu⟩ : ∃ u, ns[k] = u := ⟨_, rfl⟩
      rw [hu] at hc hs1
      have x0 : wr.cell? ⟨q, 0, none⟩ = some (.string nm) := by rw [HM.out]; exact HC0.out
      have x1 : wr.cell? ⟨b, off + k, none⟩ = some (.string u) := by rw [HM.out]; exact (HB0.out.cell (p := ⟨b, off + k, none⟩) hbl).trans hc
      have i1 : (k : Int) < (n : Int) := by omega
      have HU := Lib.hid hu
      obtain ⟨x, hx⟩ : ∃ x, sameF nm.data.toList u.data.toList = x := ⟨_, rfl⟩
      have HS := Lib.hid (same_quiet nm u hn hs1 x hx)
      have HX := Lib.hid hx
      clear hc hu hx
      go_wp2
      go_quiet ((go_at_call 20; exact HS.out _ _))
      cases x with
      | true =>
        have HF := Lib.hid (inNames_yes (ns := ns) (nm := nm) hlt2 (by rw [HU.out]; exact HX.out))
        go_wp2
        go_ret
        refine ⟨ret_bool HF.out.symm, ?_⟩
        rw [HQ.out, HM.out, World.drewN_drewN]
        exact below_drewN HB0.out _
      | false =>
        have HN2 := Lib.hid (show ∀ j (h : j < ns.length), j < k + 1 → sameF nm.data.toList ns[j].data.toList = false from fun j hj h => by
          by_cases hjk : j = k
          · subst hjk; rw [HU.out]; exact HX.out
          · exact HA.out j hj (by omega))
        go_wp2
        go_roundw
        case rel => exact ⟨k + 1, by omega, by go_num, HN2, _, Lib.hid (by rw [HM.out, World.drewN_drewN])⟩
        case measure => simp [intOf]; omega
    · have HF := Lib.hid (inNames_no (ns := ns) (nm := nm) (fun j hj => HA.out j hj (by have := HN.out; omega)))
      go_wp2
      go_ret
      refine ⟨ret_bool HF.out.symm, ?_⟩
      rw [HQ.out, HM.out]
      exact below_drewN HB0.out _

def FieldPost (w : World) (r : Fs) (e : Ending) (w' : World) : Prop :=
  ∃ v, e = .returned v ∧ w'.ownsRow w.heap.size 48 2 v r.length (fieldCells r) ∧ Below w.heap.size w w'
theorem ownsRow_base {w : World} {B B' : Nat} {e : TypeId} {size : Nat} {v : Value} {n : Nat} {xs : List Value} (h : w.ownsRow B e size v n xs) (hB : B' ≤ B) : w.ownsRow B' e size v n xs := by
  refine ⟨h.1, ?_⟩
  rcases h.2 with h0 | ⟨g, cap, cur, hv, hg, rest⟩
  · exact .inl h0
  · exact .inr ⟨g, cap, cur, hv, Nat.le_trans hB hg, rest⟩
set_option maxHeartbeats 4000000 in
theorem without_any (l : Fs) (ns : List ByteArray) (a aN : Option Addr) (cap capN n nN : Nat) (w : World) (hin : FieldsIn w.heap.size w a l) (hN : n = l.length) (hsm : SmallF l) (hle : l.length ≤ 1000000)
    (hins : StrsIn w.heap.size w aN ns) (hNN : nN = ns.length) (hsmN : Small ns) (hleN : ns.length ≤ 140737488351232) :
    Calls Tryd.prog 51 #[.slice a n cap, .slice aN nN capN] w (FieldPost w (dropF ns l)) := by
  obtain ⟨i0, hi, hz0, hz1, hz2⟩ := info_parts fieldInfo
  have HIN := Lib.hid hin
  have HN := Lib.hid hN
  have HSM := Lib.hid hsm
  have HINS := Lib.hid hins
  have HNN := Lib.hid hNN
  have HSMN := Lib.hid hsmN
  have hn0 : ({ data := #[] } : ByteArray).size = 0 := rfl
  have hle2 : n ≤ 1000000 := by omega
  clear hin hN hsm hins hNN hsmN hle
  go_enter Tryd.func51, Tryd.ntmps51
  go_wp2
  go_loopw [5, 10] (fun v i wr => ∃ (k : Nat) (r : Fs), k ≤ n ∧ i = .int .i64 k ∧ Hid (dropF ns (l.take k) = r) ∧ r.length ≤ k ∧ wr.ownsRow w.heap.size 48 2 v r.length (fieldCells r) ∧ Below w.heap.size w wr) (fun _ i _ => n - (intOf i).toNat)
  case atStart => exact ⟨0, [], Nat.zero_le _, rfl, Lib.hid rfl, Nat.le_refl _, World.ownsRow_nil _ _ _ _, Below.refl _ _⟩
  case round =>
    obtain ⟨k, r, hk, rfl, HA, hrl, hown, hb⟩ := hrel
    by_cases hlt : k < n
    · have hlt2 : k < l.length := by have := HN.out; omega
      obtain ⟨b, off, rfl, hbl, hc1, hc2⟩ := HIN.out k hlt2
      have hs1 := HSM.out k hlt2
      have x0 := (hb.cell (p := ⟨b, off + k * 2, none⟩) hbl).trans hc1
      have x1 := (hb.cell (p := ⟨b, off + k * 2 + 1, none⟩) hbl).trans hc2
      clear hc1 hc2
      obtain ⟨nm, vl, hf⟩ : ∃ nm vl, l[k] = (nm, vl) := ⟨_, _, rfl⟩
      have HF := Lib.hid hf
      simp only [hf] at x0 x1 hs1
      clear hf
      have hb' := hb.alloc (o := .cells #[.string nm, .string vl] 48) hb.size
      have hown' := hown.alloc (.cells #[.string nm, .string vl] 48)
      have hB := MBlk.new wr 48 #[.string nm, .string vl] (0, 0)
      obtain ⟨t, ht⟩ : ∃ t, inNames ns nm = t := ⟨_, rfl⟩
      have hins2 : StrsIn (wr.alloc (.cells #[.string nm, .string vl] 48)).heap.size (wr.alloc (.cells #[.string nm, .string vl] 48)) aN ns := (HINS.out).below hb' hb'.size
      have HCALL := Lib.hid (named_any nm vl ns aN capN nN _ hins2 HNN.out HSMN.out hleN hs1.1)
      have HT := Lib.hid ht
      have i1 : (k : Int) < (n : Int) := by omega
      clear ht hins2
      go_wp2_with fail
      refine HCALL.out.mono ?_
      rw [HT.out]
      rintro e w1 ⟨rfl, hbn⟩
      have hB1 : MBlk w1 wr.heap.size 48 #[.string nm, .string vl] (0, 0) := (hbn.block _ hB.lt).trans hB
      have hown1 := ownsRow_below hown' hbn
      have hb1 := hb'.trans (hbn.mono hb'.size)
      have hsz := hb1.size
      have y0 : w1.cell? ⟨wr.heap.size, 0, none⟩ = some (.string nm) := hB1.cell 0
      have y1 : w1.cell? ⟨wr.heap.size, 1, none⟩ = some (.string vl) := hB1.cell 1
      clear HCALL hbn hB hB1 hown hown' hb'
      cases t with
      | true =>
        have HG := Lib.hid (show dropF ns (l.take (k + 1)) = r from by rw [dropF_yes hlt2 (by rw [HF.out]; exact HT.out), HA.out])
        go_wp2
        go_roundw
        case rel => exact ⟨k + 1, r, by omega, by go_num, HG, by omega, hown1, hb1⟩
        case measure => simp [intOf]; omega
      | false =>
        have HG := Lib.hid (show dropF ns (l.take (k + 1)) = r ++ [(nm, vl)] from by rw [dropF_no hlt2 (by rw [HF.out]; exact HT.out), HA.out, HF.out])
        clear x0 x1
        go_wp2_with (at_builtin; refine wpList_append_own _ rfl _ _ 25 rfl w.heap.size 48 i0 (.agg #[.string ⟨#[]⟩, .string ⟨#[]⟩]) 2 32 Tryd.underlying25 hi hz0 hz1 hz2 rfl (by decide) _ _ _ rfl (hown1.alloc _) ⟨w1.heap.size, 0, none⟩ 1 1 [.string nm, .string vl] rfl rfl ?c1U ?c2U ?c3U ?c4U ?c5U ?_)
        case c1U =>
          intro j u hj
          match j, hj with
          | 0, hj => simp at hj; subst hj; simp [Addr.add]
          | 1, hj => simp at hj; subst hj; simp [Addr.add]
        case c2U => intro u hu; simp at hu; rcases hu with rfl | rfl <;> rfl
        case c3U => unfold maxLen; omega
        case c4U => omega
        case c5U => simp; omega
        intro v' w4 hown4 hgrow _
        have hb4 : Below w.heap.size w w4 := (hb1.alloc hsz _).grown hgrow (by simp; omega) (fun k hk => (hown1.lt k hk).1)
        clear hgrow hown1
        go_wp2
        go_roundw
        case rel =>
          refine ⟨k + 1, r ++ [(nm, vl)], by omega, by go_num, HG, by simp; omega, ?_, hb4⟩
          rw [fieldCells_snoc]; simpa using hown4
        case measure => simp [intOf]; omega
    · have HG := Lib.hid (show dropF ns l = r from by have := HA.out; rwa [List.take_of_length_le (by have := HN.out; omega)] at this)
      go_wp2
      go_ret
      rw [HG.out]
      exact ⟨_, rfl, hown, hb⟩
theorem small_one {x : ByteArray} (hx : x.size ≤ 140737488351232) : Small [x] := by
  intro j h
  have e : j = 0 := by simpa using h
  subst e
  exact hx
theorem strsIn_one (w : World) (t : TypeId) (x : ByteArray) : StrsIn (w.alloc (.cells #[.string x] t)).heap.size (w.alloc (.cells #[.string x] t)) (some ⟨w.heap.size, 0, none⟩) [x] := strsIn_lit w t [x]
set_option maxHeartbeats 1000000 in
theorem drop_any (l : Fs) (x : ByteArray) (a : Option Addr) (cap n : Nat) (w : World) (hin : FieldsIn w.heap.size w a l) (hN : n = l.length) (hsm : SmallF l) (hle : l.length ≤ 1000000) (hx : x.size ≤ 140737488351232) :
    Calls Tryd.prog 31 #[.slice a n cap, .string x] w (FieldPost w (dropF [x] l)) := by
  have hb0 := (Below.refl w.heap.size w).alloc (o := .cells #[.string x] 9) (Nat.le_refl _)
  have HIN := Lib.hid (hin.below hb0 hb0.size)
  have HN := Lib.hid hN
  have HSM := Lib.hid hsm
  have HB0 := Lib.hid hb0
  clear hin hN hsm hb0
  go_enter Tryd.func31, Tryd.ntmps31
  go_wp2_with fail
  refine (without_any l [x] a (some ⟨w.heap.size, 0, none⟩) cap 1 n 1 (w.alloc (.cells #[.string x] 9)) HIN.out HN.out HSM.out hle (strsIn_one w _ x) rfl (small_one hx) (by simp)).mono ?_
  rintro e w1 ⟨v, rfl, hown, hb1⟩
  have HO := Lib.hid (ownsRow_base hown HB0.out.size)
  have HB1 := Lib.hid (HB0.out.trans (hb1.mono HB0.out.size))
  clear hown hb1
  go_wp2
  go_ret
  exact ⟨_, rfl, HO.out, HB1.out⟩
def setF (n v : ByteArray) (l : Fs) : Fs := dropF [n] l ++ [(n, v)]
set_option maxHeartbeats 1000000 in
theorem set_any (l : Fs) (x y : ByteArray) (a : Option Addr) (cap n : Nat) (w : World) (hin : FieldsIn w.heap.size w a l) (hN : n = l.length) (hsm : SmallF l) (hle : l.length ≤ 1000000) (hx : x.size ≤ 140737488351232) :
    Calls Tryd.prog 33 #[.slice a n cap, .string x, .string y] w (FieldPost w (setF x y l)) := by
  obtain ⟨i0, hi, hz0, hz1, hz2⟩ := info_parts fieldInfo
  have HD := Lib.hid (drop_any l x a cap n w hin hN hsm hle hx)
  have hdl := dropF_len [x] l
  have HL := Lib.hid hdl
  have hle2 : (dropF [x] l).length ≤ 1000000 := by omega
  clear hin hN hsm hdl
  go_enter Tryd.func33, Tryd.ntmps33
  go_wp2_with fail
  refine HD.out.mono ?_
  obtain ⟨r, hr⟩ : ∃ r, dropF [x] l = r := ⟨_, rfl⟩
  have HR := Lib.hid (show setF x y l = r ++ [(x, y)] from by unfold setF; rw [hr])
  rw [hr] at hle2 ⊢
  rintro e w1 ⟨v, rfl, hown, hb1⟩
  have hsz := hb1.size
  clear hr HL HD
  go_wp2_with (at_builtin; refine wpList_append_own _ rfl _ _ 25 rfl w.heap.size 48 i0 (.agg #[.string ⟨#[]⟩, .string ⟨#[]⟩]) 2 32 Tryd.underlying25 hi hz0 hz1 hz2 rfl (by decide) _ _ _ rfl (hown.alloc _) ⟨w1.heap.size, 0, none⟩ 1 1 [.string x, .string y] rfl rfl ?c1U ?c2U ?c3U ?c4U ?c5U ?_)
  case c1U =>
    intro j u hj
    match j, hj with
    | 0, hj => simp at hj; subst hj; simp [Addr.add]
    | 1, hj => simp at hj; subst hj; simp [Addr.add]
  case c2U => intro u hu; simp at hu; rcases hu with rfl | rfl <;> rfl
  case c3U => unfold maxLen; omega
  case c4U => omega
  case c5U => simp; omega
  intro v' w4 hown4 hgrow _
  have hb4 : Below w.heap.size w w4 := (hb1.alloc hsz _).grown hgrow (by simp; omega) (fun k hk => (hown.lt k hk).1)
  clear hgrow hown
  go_wp2
  go_ret
  rw [HR.out]
  refine ⟨_, rfl, ?_, hb4⟩
  rw [fieldCells_snoc]; simpa using hown4
end Go.Proofs.YtckhjhgddnjfpaaDoor
