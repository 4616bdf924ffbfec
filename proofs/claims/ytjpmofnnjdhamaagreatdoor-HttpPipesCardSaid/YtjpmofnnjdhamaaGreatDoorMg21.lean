/-
  HeadReads.
  HeadBack.
  The reference's All, Get, Drop, Set, Lines.
  The reference's List.
  Parts put together by commas, and told one by one: the mathematics.
-/
import Derived.Test.YtjpmofnnjdhamaaGreatDoorProg
import Derived.Test.YtjpmofnnjdhamaaGreatDoorCards
import Derived.Test.YtjpmofnnjdhamaaGreatDoorTie
import Derived.Test.YtjpmofnnjdhamaaGreatDoorRows
import Derived.LaidMore
import Derived.Deep.DeepLaidRun
import Derived.SevenTiedAt
import Derived.Laws.AppendOwnNone
import Derived.SliceStrings
import Derived.ChangeOld
import Derived.Test.YtjpmofnnjdhamaaGreatDoorMg12
namespace Go.Proofs.YtjpmofnnjdhamaaGreatDoor.HeadS
open Go.RowKit HeadMath

def parseR (ls : List ByteArray) : Fs × Int := if 100 < ls.length then ([], 91) else match parseF ls with
  | none => ([], 90)
  | some fs => (fs, 0)
def ParseS (w : World) (r : Fs × Int) (e : Ending) (w' : World) : Prop := ∃ a c, e = .returned (.tuple #[.slice a r.1.length c, .int .i64 r.2]) ∧ FieldsIn w'.heap.size w' a r.1 ∧ Below w.heap.size w w'
theorem ParsePost.slice {w w' : World} {ls : List ByteArray} {e : Ending} (h : ParsePost w ls e w') : ParseS w (parseR ls) e w' := by
  obtain ⟨hb, ⟨h, rfl⟩ | ⟨h, h1, rfl⟩ | ⟨h, fs, v, h1, rfl, hown⟩⟩ := h
  · unfold parseR
    rw [if_pos h]
    exact ⟨none, 0, rfl, fun j h => absurd h (by simp), hb⟩
  · unfold parseR
    rw [if_neg (by omega), h1]
    exact ⟨none, 0, rfl, fun j h => absurd h (by simp), hb⟩
  · unfold parseR
    rw [if_neg (by omega), h1]
    rcases hown.2 with ⟨rfl, h2⟩ | ⟨g, c, cur, rfl, _⟩
    · have h0 : fs = [] := List.eq_nil_of_length_eq_zero h2
      subst h0
      exact ⟨none, 0, rfl, fun j h => absurd h (by simp), hb⟩
    · exact ⟨_, _, rfl, fieldsIn_own hown, hb⟩
theorem strCells_one (l : List ByteArray) : ∀ u ∈ strCells l, u.oneCell' = true := by
  intro u hu
  obtain ⟨x, _, rfl⟩ := List.mem_map.1 hu
  rfl
theorem strCells_len (l : List ByteArray) : (strCells l).length = l.length := by simp [strCells]
theorem strCells_app (a b : List ByteArray) : strCells (a ++ b) = strCells a ++ strCells b := by simp [strCells]
def OwnStrs (B : Nat) (w : World) (v : Value) (l : List ByteArray) : Prop := w.ownsRow B 9 1 v l.length (strCells l)
theorem StrsIn.cells {B : Nat} {w : World} {b off : Nat} {l : List ByteArray} (h : StrsIn B w (some ⟨b, off, none⟩) l) : ∀ j u, (strCells l)[j]? = some u → w.cell? ((⟨b, off, none⟩ : Addr).add j) = some u := by
  intro j u hj
  unfold strCells at hj
  rw [List.getElem?_map] at hj
  obtain ⟨x, hx, rfl⟩ := Option.map_eq_some_iff.1 hj
  obtain ⟨hlt, rfl⟩ := List.getElem?_eq_some_iff.1 hx
  obtain ⟨b', off', he, _, hc⟩ := h j hlt
  injection he with he
  injection he with h1 h2 h3
  subst h1; subst h2
  rw [Go.Addr.add_lit]
  exact hc
/-- append of a slice of texts to a row of the call's own. -/
theorem wpList_append_strs {w : World} {ops : Array Oper} {rest : List Oper} {o : Oper} {a : Act} {Q : Exit → Act → World → Prop} (hgd : o.guard = none) (s x : Operand)
    (ho : o.op = .call { callee := .builtin .append, args := #[s, x], argTypes := #[45, 45] })
    (B B' : Nat) (v : Value) (d : List ByteArray) (hs : a.eval s = v) (hown : OwnStrs B w v d) (hB : B ≤ w.heap.size)
    (ad : Option Addr) (c n : Nat) (l : List ByteArray) (hx : a.eval x = .slice ad n c) (hn : n = l.length) (hat : StrsIn B' w ad l) (hnil : ad = none → c = 0)
    (hlen : d.length + l.length ≤ 1000000000000)
    (hK : ∀ v' w', OwnStrs B w' v' (d ++ l) → w.grownBy w' v.ownBlock → wpList Tryz.prog ops Q rest (a.put o.dst v') w') : wpList Tryz.prog ops Q (o :: rest) a w := by
  obtain ⟨i0, hi, hz0, hz1, hz2⟩ := info_parts strInfo
  subst hn
  cases ad with
  | none =>
    obtain rfl := hnil rfl
    have hl : l = [] := by
      cases l with
      | nil => rfl
      | cons y l => obtain ⟨_, _, e, _⟩ := hat 0 (by simp); cases e
    subst hl
    refine wpList_append_own_none hgd s x 45 ho B 9 i0 1 Tryz.underlying45 hi v d.length (strCells d) hs hown hx ?_
    exact hK v w (by rw [List.append_nil]; exact hown) ⟨rfl, rfl, rfl, Nat.le_refl _, fun _ _ _ => rfl⟩
  | some ad =>
    by_cases he : l = []
    · subst he
      refine wpList_append_own w hgd s x 45 ho B 9 i0 (.string ⟨#[]⟩) 1 16 Tryz.underlying45 hi hz0 hz1 hz2 rfl (by decide) v d.length (strCells d) hs hown ad 0 c [] hx rfl (by simp) (by simp) (by unfold maxLen; simp at hlen; omega) (by simp at hlen; omega) hB ?_
      intro v' w' h1 h2 _
      exact hK v' w' (by unfold OwnStrs; simpa using h1) h2
    · obtain ⟨b, off, hab, _⟩ := hat 0 (List.length_pos_iff.2 he)
      injection hab with hab
      subst hab
      refine wpList_append_own w hgd s x 45 ho B 9 i0 (.string ⟨#[]⟩) 1 16 Tryz.underlying45 hi hz0 hz1 hz2 rfl (by decide) v d.length (strCells d) hs hown ⟨b, off, none⟩ l.length c (strCells l) hx (by simp [strCells_len]) hat.cells (strCells_one l) (by unfold maxLen; omega) (by omega) hB ?_
      intro v' w' h1 h2 _
      exact hK v' w' (by unfold OwnStrs; rw [List.length_append, strCells_app]; exact h1) h2
end Go.Proofs.YtjpmofnnjdhamaaGreatDoor.HeadS
namespace Go.Proofs.YtjpmofnnjdhamaaGreatDoor.HeadS
open Go.RowKit HeadMath

/-- A field's line without its end. -/
def textOf (f : ByteArray × ByteArray) : ByteArray := ⟨(f.1.data.toList ++ ([58, 32] ++ f.2.data.toList)).toArray⟩
def goodF (f : ByteArray × ByteArray) : Prop := tokenF f.1.data.toList = true ∧ valueF f.2.data.toList = true
theorem textOf_list (f : ByteArray × ByteArray) : (textOf f).data.toList = f.1.data.toList ++ ([58, 32] ++ f.2.data.toList) := rfl
theorem textOf_size (f : ByteArray × ByteArray) : (textOf f).size = f.1.size + 2 + f.2.size := by
  rw [← size_list, textOf_list, List.length_append, List.length_append, size_list, size_list]
  simp only [List.length_cons, List.length_nil]
  omega
theorem byteAt_list {s : ByteArray} {k : Nat} (h : k < s.size) : s.data.toList[k]? = some s[k] := by
  rw [List.getElem?_eq_getElem (by rw [size_list]; exact h)]; rfl
theorem sign_colon : signB 58 = false := by decide
theorem colon_text {f : ByteArray × ByteArray} (h : goodF f) : colonAt (textOf f) = (f.1.size : Int) := by
  have hsz := textOf_size f
  refine colon_is (by omega) ?_ (fun j hj hlt he => ?_)
  · have h1 := byteAt_list (s := textOf f) (k := f.1.size) (by omega)
    rw [textOf_list, List.getElem?_append_right (by rw [size_list]; exact Nat.le_refl _), size_list, Nat.sub_self] at h1
    exact (Option.some.inj h1).symm
  · have h1 := byteAt_list hj
    rw [textOf_list, List.getElem?_append_left (by rw [size_list]; exact hlt), he] at h1
    have h2 : (58 : UInt8) ∈ f.1.data.toList := List.mem_of_getElem? h1
    have h3 := h.1
    unfold tokenF at h3
    simp only [Bool.and_eq_true, List.all_eq_true] at h3
    have := h3.1 58 h2
    rw [sign_colon] at this
    cases this
theorem value_bare {x : List UInt8} (h : valueF x = true) : Bare x := by
  unfold valueF at h
  simp only [Bool.and_eq_true, beq_iff_eq] at h
  exact (eq_trimF x).1 h.2
theorem fieldOf_text {f : ByteArray × ByteArray} (h : goodF f) : fieldOf (textOf f) = some f := by
  have hsz := textOf_size f
  have h1 : (textOf f).extract 0 f.1.size = f.1 := by
    apply data_inj
    rw [Lib.extract_data, textOf_list, List.drop_zero]
    rw [List.take_append_of_le_length (by rw [size_list]; omega), List.take_of_length_le (by rw [size_list]; omega)]
  have h2 : (textOf f).extract (f.1.size + 1) (textOf f).size = ⟨(32 :: f.2.data.toList).toArray⟩ := by
    apply data_inj
    rw [Lib.extract_data, textOf_list, List.take_of_length_le (by rw [List.length_drop, List.length_append, List.length_append, size_list, size_list]; simp only [List.length_cons, List.length_nil]; omega)]
    rw [List.drop_append, List.drop_eq_nil_of_le (by rw [size_list]; omega), size_list, show f.1.size + 1 - f.1.size = 1 by omega]
    rfl
  have h3 : (⟨(trimF (⟨(32 :: f.2.data.toList).toArray⟩ : ByteArray).data.toList).toArray⟩ : ByteArray) = f.2 := by
    apply data_inj
    show trimF (32 :: f.2.data.toList) = f.2.data.toList
    have := trimF_of (u := [32]) (v := []) (x := f.2.data.toList) (by decide) (by decide) (value_bare h.2)
    simpa using this
  rw [fieldOf_named (colon_text h) h1 h2 h3, if_pos ⟨h.1, h.2⟩]
theorem parseF_text : ∀ (l : Fs), (∀ f ∈ l, goodF f) → parseF (l.map textOf) = some l
  | [], _ => rfl
  | f :: l, h => by
    rw [List.map_cons, parseF, fieldOf_text (h f (List.mem_cons_self ..))]
    simp only [parseF_text l (fun g hg => h g (List.mem_cons_of_mem _ hg))]
end Go.Proofs.YtjpmofnnjdhamaaGreatDoor.HeadS
namespace Go.Proofs.YtjpmofnnjdhamaaGreatDoor.HeadS
open Go.RowKit HeadMath

set_option maxHeartbeats 4000000 in
theorem refAll_any (l : Fs) (x : ByteArray) (a : Option Addr) (cap n : Nat) (w : World) (hin : FieldsIn w.heap.size w a l) (hN : n = l.length) (hsm : SmallF l) (hle : l.length ≤ 1000000) (hx : x.size ≤ 140737488351232) :
    Calls Tryz.prog 58 #[.slice a n cap, .string x] w (RowPost w (allF x l)) := by
  have HIN := Lib.hid hin
  have HN := Lib.hid hN
  have HSM := Lib.hid hsm
  have hle2 : n ≤ 1000000 := by omega
  clear hin hN hsm hle
  go_enter Tryz.func58, Tryz.ntmps58
  go_wp2
  go_loopw [5, 6] (fun v i wr => ∃ (k : Nat) (r : List ByteArray), k ≤ n ∧ i = .int .i64 k ∧ Hid (allF x (l.take k) = r) ∧ r.length ≤ k ∧ Hid (OwnStrs w.heap.size wr v r) ∧ Hid (Below w.heap.size w wr)) (fun _ i _ => n - (intOf i).toNat)
  case atStart => exact ⟨0, [], Nat.zero_le _, rfl, Lib.hid rfl, Nat.le_refl _, Lib.hid (World.ownsRow_nil _ _ _ _), Lib.hid (Below.refl _ _)⟩
  case round =>
    obtain ⟨k, r, hk, rfl, HA, hrl, HO, HB⟩ := hrel
    by_cases hlt : k < n
    · have hlt2 : k < l.length := by have := HN.out; omega
      obtain ⟨b, off, rfl, hbl, hc1, hc2⟩ := HIN.out k hlt2
      have hs1 := HSM.out k hlt2
      have x0 := (HB.out.cell (p := ⟨b, off + k * 2, none⟩) hbl).trans hc1
      obtain ⟨nm, vl, hf⟩ : ∃ nm vl, l[k] = (nm, vl) := ⟨_, _, rfl⟩
      have HF := Lib.hid hf
      simp only [hf] at x0 hc2 hs1
      have HC2 := Lib.hid hc2
      obtain ⟨t, ht⟩ : ∃ t, sameF nm.data.toList x.data.toList = t := ⟨_, rfl⟩
      have HT := Lib.hid ht
      have i1 : (k : Int) < (n : Int) := by omega
      clear hc1 hc2 hf ht
      go_wp2_with fail
      refine (refSame_any nm x _ hs1.1 hx).mono ?_
      rw [HT.out]
      rintro e w1 ⟨rfl, hb1⟩
      have HB1 := Lib.hid (HB.out.trans (hb1.mono HB.out.size))
      have HO1 := Lib.hid (show OwnStrs w.heap.size w1 u5 r from ownsRow_below HO.out hb1)
      clear x0 hb1
      cases t with
      | false =>
        have HG := Lib.hid (show allF x (l.take (k + 1)) = r from by rw [allF_no hlt2 (by rw [HF.out]; exact HT.out), HA.out])
        go_wp2
        go_roundw
        case rel => exact ⟨k + 1, r, by omega, by go_num, HG, by omega, HO1, HB1⟩
        case measure => simp [intOf]; omega
      | true =>
        have HG := Lib.hid (show allF x (l.take (k + 1)) = r ++ [vl] from by rw [allF_yes hlt2 (by rw [HF.out]; exact HT.out), HA.out, HF.out])
        have y1 := (HB1.out.cell (p := ⟨b, off + k * 2 + 1, none⟩) hbl).trans HC2.out
        have HO2 := Lib.hid (show OwnStrs w.heap.size (w1.alloc (.cells #[.string vl] 9)) u5 r from HO1.out.alloc _)
        have HS2 := Lib.hid (strsIn_one w1 9 vl)
        have HB2 := Lib.hid (HB1.out.alloc (o := .cells #[.string vl] 9) HB1.out.size)
        have HLEN := Lib.hid (show r.length + [vl].length ≤ 1000000000000 by simp; omega)
        go_wp2_with (at_builtin; refine wpList_append_strs rfl _ _ rfl w.heap.size (w1.alloc (.cells #[.string vl] 9)).heap.size u5 r rfl HO2.out HB2.out.size (some ⟨w1.heap.size, 0, none⟩) 1 1 [vl] rfl rfl HS2.out (fun e => by cases e) HLEN.out ?_)
        intro v4 w4 ho4 hg4
        have HO4 := Lib.hid ho4
        have HB4 := Lib.hid (HB2.out.grown hg4 HB2.out.size (fun g hg => (World.ownsRow.lt HO2.out g hg).1))
        clear ho4 hg4 HO2 HS2 HB2 HO1 HB1 y1
        go_wp2
        go_roundw
        case rel => exact ⟨k + 1, r ++ [vl], by omega, by go_num, HG, by simp; omega, HO4, HB4⟩
        case measure => simp [intOf]; omega
    · have HG := Lib.hid (show allF x l = r from by have := HA.out; rwa [List.take_of_length_le (by have := HN.out; omega)] at this)
      go_wp2
      go_ret
      rw [HG.out]
      exact ⟨_, rfl, HO.out, HB.out⟩
theorem allF_first {n : ByteArray} {l : Fs} {v : ByteArray} {r : List ByteArray} (h : allF n l = v :: r) : getF n l = some v := by
  unfold allF at h
  unfold getF
  induction l with
  | nil => cases h
  | cons f l ih =>
    rw [List.filter_cons] at h
    rw [List.find?_cons]
    cases hf : isNamed n f with
    | true => rw [hf] at h; simp at h; simp [h.1]
    | false => rw [hf] at h; simp at h; simp only; exact ih (by simpa using h)
theorem allF_nil {n : ByteArray} {l : Fs} (h : allF n l = []) : getF n l = none := by
  refine getF_none (fun j hj => ?_)
  unfold allF at h
  rw [List.map_eq_nil_iff, List.filter_eq_nil_iff] at h
  simpa using h _ (List.getElem_mem hj)
set_option maxHeartbeats 1000000 in
theorem refGet_any (l : Fs) (x : ByteArray) (a : Option Addr) (cap n : Nat) (w : World) (hin : FieldsIn w.heap.size w a l) (hN : n = l.length) (hsm : SmallF l) (hle : l.length ≤ 1000000) (hx : x.size ≤ 140737488351232) :
    Calls Tryz.prog 37 #[.slice a n cap, .string x] w (GetPost x l w) := by
  have HC := Lib.hid ((refAll_any l x a cap n w hin hN hsm hle hx).mono fun _ _ h => h.slice)
  clear hin hN hsm hle
  go_enter Tryz.func37, Tryz.ntmps37
  go_wp2_with fail
  refine HC.out.mono ?_
  rintro e w1 ⟨a1, c1, rfl, hs1, hb1⟩
  obtain ⟨r, hr⟩ : ∃ r, allF x l = r := ⟨_, rfl⟩
  rw [hr] at hs1 ⊢
  have HR := Lib.hid hr
  have HB := Lib.hid hb1
  cases r with
  | nil =>
    clear hr hs1 hb1 HC
    go_wp2
    go_ret2
    exact ⟨HB.out, .inl ⟨allF_nil HR.out, rfl⟩⟩
  | cons v r =>
    obtain ⟨b, off, rfl, _, hc⟩ := hs1 0 (by simp)
    simp only [List.getElem_cons_zero, Nat.add_zero] at hc
    obtain ⟨m, hm⟩ : ∃ m, (v :: r).length = m := ⟨_, rfl⟩
    have q : ((m : Int) == 0) = false := by rw [beq_eq_false_iff_ne]; rw [← hm]; simp; omega
    have q2 : (0 : Int) < (m : Int) := by rw [← hm]; simp
    have q3 : 0 < m := by omega
    rw [hm]
    clear hr hb1 HC hm
    go_wp2
    go_ret2
    exact ⟨HB.out, .inr ⟨v, allF_first HR.out, rfl⟩⟩
set_option maxHeartbeats 4000000 in
theorem refDrop_any (l : Fs) (x : ByteArray) (a : Option Addr) (cap n : Nat) (w : World) (hin : FieldsIn w.heap.size w a l) (hN : n = l.length) (hsm : SmallF l) (hle : l.length ≤ 1000000) (hx : x.size ≤ 140737488351232) :
    Calls Tryz.prog 33 #[.slice a n cap, .string x] w (FieldPost w (dropF [x] l)) := by
  obtain ⟨i0, hi, hz0, hz1, hz2⟩ := info_parts fieldInfo
  have HIN := Lib.hid hin
  have HN := Lib.hid hN
  have HSM := Lib.hid hsm
  have hle2 : n ≤ 1000000 := by omega
  clear hin hN hsm hle
  go_enter Tryz.func33, Tryz.ntmps33
  go_wp2
  go_loopw [5, 6] (fun v i wr => ∃ (k : Nat) (r : Fs), k ≤ n ∧ i = .int .i64 k ∧ Hid (dropF [x] (l.take k) = r) ∧ r.length ≤ k ∧ wr.ownsRow w.heap.size 59 2 v r.length (fieldCells r) ∧ Below w.heap.size w wr) (fun _ i _ => n - (intOf i).toNat)
  case atStart => exact ⟨0, [], Nat.zero_le _, rfl, Lib.hid rfl, Nat.le_refl _, World.ownsRow_nil _ _ _ _, Below.refl _ _⟩
  case round =>
    obtain ⟨k, r, hk, rfl, HA, hrl, hown, hb⟩ := hrel
    by_cases hlt : k < n
    · have hlt2 : k < l.length := by have := HN.out; omega
      obtain ⟨b, off, rfl, hbl, hc1, hc2⟩ := HIN.out k hlt2
      have hs1 := HSM.out k hlt2
      have x0 := (hb.cell (p := ⟨b, off + k * 2, none⟩) hbl).trans hc1
      obtain ⟨nm, vl, hf⟩ : ∃ nm vl, l[k] = (nm, vl) := ⟨_, _, rfl⟩
      have HF := Lib.hid hf
      simp only [hf] at x0 hc1 hc2 hs1
      have HC1 := Lib.hid hc1
      have HC2 := Lib.hid hc2
      obtain ⟨t, ht⟩ : ∃ t, sameF nm.data.toList x.data.toList = t := ⟨_, rfl⟩
      have HT := Lib.hid ht
      have HIN1 := Lib.hid (inNames_one x nm)
      have HTN : Hid (inNames [x] nm = t) := Lib.hid (by rw [HIN1.out]; exact ht)
      have i1 : (k : Int) < (n : Int) := by omega
      clear hc1 hc2 hf ht HIN1
      go_wp2_with fail
      refine (refSame_any nm x _ hs1.1 hx).mono ?_
      rw [HT.out]
      rintro e w1 ⟨rfl, hb1⟩
      have hown1 := ownsRow_below hown hb1
      replace hb1 := hb.trans (hb1.mono hb.size)
      have hsz := hb1.size
      clear x0 hown hb
      cases t with
      | true =>
        have HG := Lib.hid (show dropF [x] (l.take (k + 1)) = r from by rw [dropF_yes hlt2 (by rw [HF.out]; exact HTN.out), HA.out])
        go_wp2
        go_roundw
        case rel => exact ⟨k + 1, r, by omega, by go_num, HG, by omega, hown1, hb1⟩
        case measure => simp [intOf]; omega
      | false =>
        have HG := Lib.hid (show dropF [x] (l.take (k + 1)) = r ++ [(nm, vl)] from by rw [dropF_no hlt2 (by rw [HF.out]; exact HTN.out), HA.out, HF.out])
        have y0 := (hb1.cell (p := ⟨b, off + k * 2, none⟩) hbl).trans HC1.out
        have y1 := (hb1.cell (p := ⟨b, off + k * 2 + 1, none⟩) hbl).trans HC2.out
        go_wp2_with (at_builtin; refine wpList_append_own _ rfl _ _ 22 rfl w.heap.size 59 i0 (.agg #[.string ⟨#[]⟩, .string ⟨#[]⟩]) 2 32 Tryz.underlying22 hi hz0 hz1 hz2 rfl (by decide) _ _ _ rfl (hown1.alloc _) ⟨w1.heap.size, 0, none⟩ 1 1 [.string nm, .string vl] rfl rfl ?c1U ?c2U ?c3U ?c4U ?c5U ?_)
        case c1U =>
          intro j u hj
          match j, hj with
          | 0, hj => simp at hj; subst hj; simp [Addr.add]
          | 1, hj => simp at hj; subst hj; simp [Addr.add]
        case c2U => intro u hu; simp at hu; rcases hu with rfl | rfl <;> rfl
        case c3U => unfold maxLen; omega
        case c4U => omega
        case c5U => simp; omega
        intro v' w4 hown4 hgrow _
        have hb4 : Below w.heap.size w w4 := (hb1.alloc hsz _).grown hgrow (by simp; omega) (fun k hk => (hown1.lt k hk).1)
        clear hgrow hown1
        go_wp2
        go_roundw
        case rel =>
          refine ⟨k + 1, r ++ [(nm, vl)], by omega, by go_num, HG, by simp; omega, ?_, hb4⟩
          rw [fieldCells_snoc]; simpa using hown4
        case measure => simp [intOf]; omega
    · have HG := Lib.hid (show dropF [x] l = r from by have := HA.out; rwa [List.take_of_length_le (by have := HN.out; omega)] at this)
      go_wp2
      go_ret
      rw [HG.out]
      exact ⟨_, rfl, hown, hb⟩
set_option maxHeartbeats 4000000 in
theorem refLines_any (l : Fs) (a : Option Addr) (cap n : Nat) (w : World) (hin : FieldsIn w.heap.size w a l) (hN : n = l.length) (hle : l.length ≤ 1000000) (hsz : ∀ j (h : j < l.length), l[j].1.size ≤ 1000000 ∧ l[j].2.size ≤ 1000000) :
    Calls Tryz.prog 32 #[.slice a n cap] w fun e w' => e = .returned (.string ⟨(linesF l).toArray⟩) ∧ Below w.heap.size w w' := by
  have HIN := Lib.hid hin
  have HN := Lib.hid hN
  have HSZ := Lib.hid hsz
  have hle2 : n ≤ 1000000 := by omega
  clear hin hN hle hsz
  go_enter Tryz.func32, Tryz.ntmps32
  go_wp2
  go_loopw [3, 4] (fun v i wr => ∃ (k : Nat) (s : ByteArray), k ≤ n ∧ i = .int .i64 k ∧ v = .string s ∧ s.size ≤ k * 2000004 ∧ Hid (s.data.toList = linesF (l.take k)) ∧ ∃ m, Hid (wr = w.drewN m)) (fun _ i _ => n - (intOf i).toNat)
  case atStart => exact ⟨0, _, Nat.zero_le _, rfl, rfl, Nat.zero_le _, Lib.hid rfl, 0, Lib.hid rfl⟩
  case round =>
    obtain ⟨k, s, hk, rfl, rfl, hss, HS, m, HM⟩ := hrel
    by_cases hlt : k < n
    · have hlt2 : k < l.length := by have := HN.out; omega
      obtain ⟨b, off, rfl, hbl, hc1, hc2⟩ := HIN.out k hlt2
      obtain ⟨nm, vl, hf⟩ : ∃ nm vl, l[k] = (nm, vl) := ⟨_, _, rfl⟩
      simp only [hf] at hc1 hc2
      have x0 : wr.cell? ⟨b, off + k * 2, none⟩ = some (.string nm) := by rw [HM.out]; exact hc1
      have x1 : wr.cell? ⟨b, off + k * 2 + 1, none⟩ = some (.string vl) := by rw [HM.out]; exact hc2
      have i1 : (k : Int) < (n : Int) := by omega
      have hs1 := HSZ.out k hlt2
      simp only [hf] at hs1
      obtain ⟨A1, hA1⟩ : ∃ A, s ++ nm = A := ⟨_, rfl⟩
      obtain ⟨A2, hA2⟩ : ∃ A, A1 ++ ⟨#[58, 32]⟩ = A := ⟨_, rfl⟩
      obtain ⟨A3, hA3⟩ : ∃ A, A2 ++ vl = A := ⟨_, rfl⟩
      obtain ⟨s', hs'⟩ : ∃ A, A3 ++ ⟨#[13, 10]⟩ = A := ⟨_, rfl⟩
      have z2 : (⟨#[58, 32]⟩ : ByteArray).size = 2 := rfl
      have z4 : (⟨#[13, 10]⟩ : ByteArray).size = 2 := rfl
      have zA1 : A1.size = s.size + nm.size := by rw [← hA1, ByteArray.size_append]
      have zA2 : A2.size = A1.size + 2 := by rw [← hA2, ByteArray.size_append, z2]
      have zA3 : A3.size = A2.size + vl.size := by rw [← hA3, ByteArray.size_append]
      have zs' : s'.size = A3.size + 2 := by rw [← hs', ByteArray.size_append, z4]
      have r1 : ∀ w, (Op.stringOp .add s nm).run Tryz.prog w = .ok (.string A1) w := fun w => hA1 ▸ run_string_add_sum w _ _ (by omega)
      have r2 : ∀ w, (Op.stringOp .add A1 ⟨#[58, 32]⟩).run Tryz.prog w = .ok (.string A2) w := fun w => hA2 ▸ run_string_add_sum w _ _ (by omega)
      have r3 : ∀ w, (Op.stringOp .add A2 vl).run Tryz.prog w = .ok (.string A3) w := fun w => hA3 ▸ run_string_add_sum w _ _ (by omega)
      have r4 : ∀ w, (Op.stringOp .add A3 ⟨#[13, 10]⟩).run Tryz.prog w = .ok (.string s') w := fun w => hs' ▸ run_string_add_sum w _ _ (by omega)
      have d1 : ¬ (9223372036854775807 < s.size + nm.size) := by omega
      have d2 : ¬ (9223372036854775807 < A1.size + (⟨#[58, 32]⟩ : ByteArray).size) := by omega
      have d3 : ¬ (9223372036854775807 < A2.size + vl.size) := by omega
      have d4 : ¬ (9223372036854775807 < A3.size + (⟨#[13, 10]⟩ : ByteArray).size) := by omega
      have HS' : Hid (s'.data.toList = linesF (l.take (k + 1))) := Lib.hid (by
        rw [linesF_take hlt2, ← HS.out, ← hs', ← hA3, ← hA2, ← hA1, hf]
        unfold lineF
        simp [ByteArray.data_append])
      have hss' : s'.size ≤ (k + 1) * 2000004 := by omega
      have HSS' := Lib.hid hss'
      clear z2 z4 zA1 zA2 zA3 zs' hss'
      clear hc1 hc2 hf
      go_wp2
      go_quiet (fail)
      go_wp2
      go_roundw
      case rel => exact ⟨k + 1, s', by omega, by go_num, rfl, HSS'.out, HS', _, Lib.hid (by rw [HM.out, World.drewN_drewN])⟩
      case measure => simp [intOf]; omega
    · have HE : Hid (s = ⟨(linesF l).toArray⟩) := Lib.hid (by
        have h := HS.out
        rw [List.take_of_length_le (by have := HN.out; omega)] at h
        exact data_as s h)
      go_wp2
      go_ret
      rw [HM.out]
      exact ⟨congrArg (fun x => Ending.returned (Value.string x)) HE.out, below_drewN (Below.refl _ _) m⟩
end Go.Proofs.YtjpmofnnjdhamaaGreatDoor.HeadS
namespace Go.Proofs.YtjpmofnnjdhamaaGreatDoor.HeadS
open Go.RowKit HeadMath

/-- Within a text: k bytes are read, the part at hand begins at f, q: within quotes; acc: what is told so far; T: all that will be. -/
def Lst (s : ByteArray) (T : List ByteArray) (k f : Nat) (q : Bool) (acc : List ByteArray) : Prop :=
  (k ≤ s.size ∧ f ≤ k ∧ (k - f) + endF q false (s.data.toList.drop k) = endF false false (s.data.toList.drop f) ∧ acc ++ partsF (s.extract f s.size) = T) ∨ (k = s.size + 1 ∧ acc = T)
theorem lst_in {s : ByteArray} {T acc : List ByteArray} {k f : Nat} {q : Bool} (h : Lst s T k f q acc) (hk : k ≤ s.size) : f ≤ k ∧ (k - f) + endF q false (s.data.toList.drop k) = endF false false (s.data.toList.drop f) ∧ acc ++ partsF (s.extract f s.size) = T := by
  rcases h with ⟨_, h1, h2, h3⟩ | ⟨h1, _⟩
  · exact ⟨h1, h2, h3⟩
  · omega
theorem lst_quote {s : ByteArray} {T acc : List ByteArray} {k f : Nat} {q : Bool} (h : Lst s T k f q acc) (hk : k < s.size) (hc : s[k] = 34) : Lst s T (k + 1) f (!q) acc := by
  obtain ⟨h1, h2, h3⟩ := lst_in h (Nat.le_of_lt hk)
  refine .inl ⟨hk, by omega, ?_, h3⟩
  rw [drop_at s k hk, hc] at h2
  cases q with
  | true =>
    simp only [endF, if_neg (show ¬ (34 : UInt8) = 92 by decide), if_true] at h2
    simp only [Bool.not_true]
    omega
  | false =>
    simp only [endF, if_true] at h2
    simp only [Bool.not_false]
    omega
theorem lst_skip {s : ByteArray} {T acc : List ByteArray} {k f : Nat} (h : Lst s T k f true acc) (hk : k + 1 < s.size) (hc : s[k] = 92) : Lst s T (k + 2) f true acc := by
  obtain ⟨h1, h2, h3⟩ := lst_in h (by omega)
  refine .inl ⟨hk, by omega, ?_, h3⟩
  rw [drop_at s k (by omega), hc, drop_at s (k + 1) hk] at h2
  simp only [endF, if_true] at h2
  rw [show k + 1 + 1 = k + 2 from rfl] at h2
  omega
theorem lst_last {s : ByteArray} {T acc : List ByteArray} {k f : Nat} (h : Lst s T k f true acc) (hk : k < s.size) (hk1 : ¬ k + 1 < s.size) (hc : s[k] = 92) : Lst s T (k + 1) f true acc := by
  obtain ⟨h1, h2, h3⟩ := lst_in h (by omega)
  refine .inl ⟨hk, by omega, ?_, h3⟩
  have hd : s.data.toList.drop (k + 1) = [] := List.drop_eq_nil_of_le (by rw [size_list]; omega)
  rw [drop_at s k hk, hc, hd] at h2
  simp only [endF, if_true] at h2
  rw [hd]
  simp only [endF]
  omega
theorem lst_other {s : ByteArray} {T acc : List ByteArray} {k f : Nat} {q : Bool} (h : Lst s T k f q acc) (hk : k < s.size) (h34 : s[k] ≠ 34) (h92 : q = true → s[k] ≠ 92) (h44 : q = false → s[k] ≠ 44) : Lst s T (k + 1) f q acc := by
  obtain ⟨h1, h2, h3⟩ := lst_in h (Nat.le_of_lt hk)
  refine .inl ⟨hk, by omega, ?_, h3⟩
  rw [drop_at s k hk] at h2
  cases q with
  | true =>
    simp only [endF, if_neg (h92 rfl), if_neg h34] at h2
    omega
  | false =>
    simp only [endF, if_neg h34, if_neg (h44 rfl)] at h2
    omega
/-- The part at hand. -/
def partAt (s : ByteArray) (f k : Nat) : ByteArray := ⟨(trimF (s.extract f k).data.toList).toArray⟩
def told (p : ByteArray) : List ByteArray := if p.size = 0 then [] else [p]
theorem extract_extract0 (s : ByteArray) (f k : Nat) (h1 : f ≤ k) (h2 : k ≤ s.size) : (s.extract f s.size).extract 0 (k - f) = s.extract f k := by
  apply data_inj
  rw [Lib.extract_data, Lib.extract_data, Lib.extract_data, List.drop_zero, Nat.sub_zero, List.take_take, Nat.min_eq_left (by omega)]
theorem endOf_at {s : ByteArray} {f : Nat} : endOf (s.extract f s.size) = endF false false (s.data.toList.drop f) := by
  unfold endOf
  rw [Lib.extract_to_end]
theorem lst_comma {s : ByteArray} {T acc : List ByteArray} {k f : Nat} (h : Lst s T k f false acc) (hk : k < s.size) (hc : s[k] = 44) : Lst s T (k + 1) (k + 1) false (acc ++ told (partAt s f k)) := by
  obtain ⟨h1, h2, h3⟩ := lst_in h (Nat.le_of_lt hk)
  refine .inl ⟨hk, Nat.le_refl _, by rw [Nat.sub_self, Nat.zero_add], ?_⟩
  rw [drop_at s k hk, hc] at h2
  simp only [endF, if_neg (show ¬ (44 : UInt8) = 34 by decide), if_true] at h2
  have hz : (s.extract f s.size).size = s.size - f := extract_size s f s.size (by omega) (Nat.le_refl _)
  have he : endOf (s.extract f s.size) = k - f := by rw [endOf_at]; omega
  have hp : pieceOf (s.extract f s.size) = partAt s f k := by
    unfold pieceOf partAt
    rw [he, extract_extract0 s f k h1 (by omega)]
  have hr : restOf (s.extract f s.size) = s.extract (k + 1) s.size := by
    unfold restOf
    rw [he, hz, Nat.min_eq_left (by omega), ← hz]
    apply data_inj
    rw [Lib.extract_to_end, Lib.extract_to_end, Lib.extract_to_end, List.drop_drop]
    congr 1
    omega
  have hpf : partsF (s.extract f s.size) = told (partAt s f k) ++ partsF (s.extract (k + 1) s.size) := by
    rw [partsF, dif_neg (by omega), hp, hr]
    rfl
  rw [List.append_assoc, ← hpf, h3]
theorem lst_end {s : ByteArray} {T acc : List ByteArray} {f : Nat} {q : Bool} (h : Lst s T s.size f q acc) (f' : Nat) (q' : Bool) : Lst s T (s.size + 1) f' q' (acc ++ told (partAt s f s.size)) := by
  obtain ⟨h1, h2, h3⟩ := lst_in h (Nat.le_refl _)
  refine .inr ⟨rfl, ?_⟩
  have hd : s.data.toList.drop s.size = [] := List.drop_eq_nil_of_le (by rw [size_list]; exact Nat.le_refl _)
  rw [hd] at h2
  have h2' : s.size - f = endF false false (s.data.toList.drop f) := by cases q <;> (simp only [endF] at h2; omega)
  have hz : (s.extract f s.size).size = s.size - f := extract_size s f s.size (by omega) (Nat.le_refl _)
  have he : endOf (s.extract f s.size) = s.size - f := by rw [endOf_at]; omega
  have hp : pieceOf (s.extract f s.size) = partAt s f s.size := by
    unfold pieceOf partAt
    rw [he, extract_extract0 s f s.size h1 (Nat.le_refl _)]
  have hpf : partsF (s.extract f s.size) = told (partAt s f s.size) := by
    by_cases h0 : (s.extract f s.size).size = 0
    · rw [partsF_nil h0]
      unfold told
      rw [if_pos]
      have := size_trim (s.extract f s.size)
      unfold partAt
      omega
    · rw [partsF, dif_neg h0, hp, partsF_nil (by rw [restOf_size, he, hz]; omega), List.append_nil]
      rfl
  rw [← hpf, h3]
theorem lst_start (s : ByteArray) (r : List ByteArray) : Lst s (r ++ partsF s) 0 0 false r := by
  refine .inl ⟨Nat.zero_le _, Nat.le_refl _, by simp, ?_⟩
  congr 1
  have : s.extract 0 s.size = s := by apply data_inj; rw [Lib.extract_to_end, List.drop_zero]
  rw [this]
theorem lst_out {s : ByteArray} {T acc : List ByteArray} {k f : Nat} {q : Bool} (h : Lst s T k f q acc) (hk : ¬ k ≤ s.size) : k = s.size + 1 ∧ acc = T := by
  rcases h with ⟨h1, _⟩ | h
  · exact absurd h1 hk
  · exact h
set_option maxRecDepth 100000 in
set_option maxHeartbeats 8000000 in
theorem refList_any (l : Fs) (x : ByteArray) (a : Option Addr) (cap n : Nat) (w : World) (hin : FieldsIn w.heap.size w a l) (hN : n = l.length) (hsm : SmallF l) (hle : l.length ≤ 100000) (hvs : ∀ j (h : j < l.length), l[j].2.size ≤ 1000000) (hx : x.size ≤ 140737488351232) :
    Calls Tryz.prog 82 #[.slice a n cap, .string x] w (RowPost w (listF x l)) := by
  have HC := Lib.hid ((refAll_any l x a cap n w hin hN hsm (by omega) hx).mono fun _ _ h => h.slice)
  have hal := allF_len x l
  have has := allF_size (n := x) hvs
  have HL := Lib.hid (show listF x l = (allF x l).flatMap partsF from rfl)
  obtain ⟨A, hA⟩ : ∃ A, allF x l = A := ⟨_, rfl⟩
  rw [hA] at HC hal has HL
  have HAS := Lib.hid has
  obtain ⟨nA, hnA⟩ : ∃ nA, A.length = nA := ⟨_, rfl⟩
  have HNA := Lib.hid hnA
  have hnA2 : nA ≤ 100000 := by omega
  rw [show (SSlice w A) = SSlice w A from rfl] at HC
  clear hin hN hsm hvs hA hal has hle
  go_enter Tryz.func82, Tryz.ntmps82
  go_wp2_with fail
  refine HC.out.mono ?_
  rintro e w1 ⟨a1, c1, rfl, hs1, hb1⟩
  rw [hnA]
  have HIN := Lib.hid hs1
  have HB1 := Lib.hid hb1
  clear hs1 hb1 HC hnA
  go_wp2
  go_loopw [5, 7] (fun v i wr => ∃ (k : Nat) (r : List ByteArray), k ≤ nA ∧ i = .int .i64 k ∧ Hid ((A.take k).flatMap partsF = r) ∧ r.length ≤ k * 1000001 ∧ Hid (OwnStrs w1.heap.size wr v r) ∧ Hid (Below w1.heap.size w1 wr)) (fun _ i _ => nA - (intOf i).toNat)
  case atStart => exact ⟨0, [], Nat.zero_le _, rfl, Lib.hid rfl, Nat.zero_le _, Lib.hid (World.ownsRow_nil _ _ _ _), Lib.hid (Below.refl _ _)⟩
  case round =>
    obtain ⟨k, r, hk, rfl, HR, hrl, HO, HB⟩ := hrel
    by_cases hlt : k < nA
    · have hlt2 : k < A.length := by have := HNA.out; omega
      obtain ⟨b, off, rfl, hbl, hc⟩ := HIN.out k hlt2
      have hssz := HAS.out _ (List.getElem_mem hlt2)
      have x0 := (HB.out.cell (p := ⟨b, off + k, none⟩) hbl).trans hc
      obtain ⟨s, hs⟩ : ∃ s, A[k] = s := ⟨_, rfl⟩
      rw [hs] at x0 hssz
      have HS := Lib.hid hs
      have i1 : (k : Int) < (nA : Int) := by omega
      obtain ⟨wo, hwo⟩ : ∃ wo : World, wo = wr := ⟨_, rfl⟩
      subst hwo
      obtain ⟨T, hT⟩ : ∃ T, r ++ partsF s = T := ⟨_, rfl⟩
      have HT := Lib.hid hT
      have HL0 := Lib.hid (lst_start s r)
      rw [hT] at HL0
      clear hc hs hT
      go_wp2
      go_loopw [5, 9, 10, 11] (fun v fv qv i wr => ∃ (j f : Nat) (q : Bool) (acc : List ByteArray), i = .int .i64 j ∧ fv = .int .i64 f ∧ qv = .bool q ∧ j ≤ s.size + 1 ∧ acc.length ≤ r.length + j ∧ Hid (Lst s T j f q acc) ∧ Hid (OwnStrs w1.heap.size wr v acc) ∧ Hid (Below w1.heap.size w1 wr)) (fun _ _ _ i _ => s.size + 1 - (intOf i).toNat)
      case atStart => exact ⟨0, 0, false, r, rfl, rfl, rfl, by omega, by omega, HL0, HO, HB⟩
      clear HL0 HO HB x0
      case round =>
        obtain ⟨j, f, q, acc, rfl, rfl, rfl, hj, hacc, HLS, HO, HB⟩ := hrel
        by_cases hjs : j ≤ s.size
        · have hjs1 : (j : Int) ≤ (s.size : Int) := by omega
          have hfj := (lst_in HLS.out hjs).1
          have hmn : min (j : Int) (s.size : Int) = (j : Int) := by omega
          by_cases hjl : j < s.size
          · have hjl1 : (j : Int) < (s.size : Int) := by omega
            have e34 := u8_beq_lit s[j] 34 (by omega)
            have e44 := u8_beq_lit s[j] 44 (by omega)
            have e92 := u8_beq_lit s[j] 92 (by omega)
            by_cases h34 : s[j] = 34
            · have q34 : ((s[j].toNat : Int) == 34) = true := by rw [h34]; rfl
              have q44 : ((s[j].toNat : Int) == 44) = false := by rw [h34]; rfl
              have q44' : ((s[j].toNat : Int) != 44) = true := by unfold bne; rw [q44]; rfl
              have HN := Lib.hid (lst_quote HLS.out hjl h34)
              clear e34 e44 e92 h34
              go_wp2
              go_roundw
              case rel => exact ⟨j + 1, f, !q, acc, by go_num, rfl, rfl, by omega, by omega, HN, HO, HB⟩
              case measure => simp [intOf]; omega
            · have q34 : ((s[j].toNat : Int) == 34) = false := e34.trans (by simpa using h34)
              cases q with
              | true =>
                by_cases h92 : s[j] = 92
                · have q92 : ((s[j].toNat : Int) == 92) = true := by rw [h92]; rfl
                  have q44 : ((s[j].toNat : Int) == 44) = false := by rw [h92]; rfl
                  have q44' : ((s[j].toNat : Int) != 44) = true := by unfold bne; rw [q44]; rfl
                  by_cases hj1 : j + 1 < s.size
                  · have HN := Lib.hid (lst_skip HLS.out hj1 h92)
                    have hj2 : (j : Int) + 1 < (s.size : Int) := by omega
                    clear e34 e44 e92 h34 h92
                    go_wp2
                    go_roundw
                    case rel => exact ⟨j + 2, f, true, acc, by go_num, rfl, rfl, by omega, by omega, HN, HO, HB⟩
                    case measure => simp [intOf]; omega
                  · have HN := Lib.hid (lst_last HLS.out hjl hj1 h92)
                    have hj2 : ¬ (j : Int) + 1 < (s.size : Int) := by omega
                    clear e34 e44 e92 h34 h92
                    go_wp2
                    go_roundw
                    case rel => exact ⟨j + 1, f, true, acc, by go_num, rfl, rfl, by omega, by omega, HN, HO, HB⟩
                    case measure => simp [intOf]; omega
                · have q92 : ((s[j].toNat : Int) == 92) = false := e92.trans (by simpa using h92)
                  have HN := Lib.hid (lst_other HLS.out hjl h34 (fun _ => h92) (fun h => by cases h))
                  obtain ⟨t44, ht44⟩ : ∃ t, ((s[j].toNat : Int) == 44) = t := ⟨_, rfl⟩
                  have q44' : ((s[j].toNat : Int) != 44) = !t44 := by unfold bne; rw [ht44]
                  clear e34 e44 e92 h34 h92
                  cases t44 with
                  | true =>
                    have q44'' : ((s[j].toNat : Int) != 44) = false := q44'
                    clear q44'
                    go_wp2
                    go_roundw
                    case rel => exact ⟨j + 1, f, true, acc, by go_num, rfl, rfl, by omega, by omega, HN, HO, HB⟩
                    case measure => simp [intOf]; omega
                  | false =>
                    have q44'' : ((s[j].toNat : Int) != 44) = true := q44'
                    clear q44'
                    go_wp2
                    go_roundw
                    case rel => exact ⟨j + 1, f, true, acc, by go_num, rfl, rfl, by omega, by omega, HN, HO, HB⟩
                    case measure => simp [intOf]; omega
              | false =>
                by_cases h44 : s[j] = 44
                · have q44 : ((s[j].toNat : Int) == 44) = true := by rw [h44]; rfl
                  have q44' : ((s[j].toNat : Int) != 44) = false := by unfold bne; rw [q44]; rfl
                  have HN := Lib.hid (lst_comma HLS.out hjl h44)
                  clear e34 e44 e92 h34 h44
                  have hfj1 : (f : Int) ≤ (j : Int) := by omega
                  obtain ⟨pc, hpc⟩ : ∃ pc, partAt s f j = pc := ⟨_, rfl⟩
                  rw [hpc] at HN
                  have HPC := Lib.hid (show (⟨(trimF (s.extract f j).data.toList).toArray⟩ : ByteArray) = pc from hpc)
                  have hx1 : (s.extract f j).size ≤ 140737488351232 := by rw [extract_size s f j hfj (by omega)]; omega
                  clear hpc
                  go_wp2_with fail
                  refine (refTrim_named _ hx1 HPC.out).mono ?_
                  rintro e w3 ⟨rfl, rfl⟩
                  by_cases hp0 : pc.size = 0
                  · have qe := isEmpty_yes hp0
                    have HN2 : Hid (Lst s T (j + 1) (j + 1) false acc) := Lib.hid (by have := HN.out; unfold told at this; rw [if_pos hp0, List.append_nil] at this; exact this)
                    clear hp0 HN
                    go_wp2
                    go_roundw
                    case rel => exact ⟨j + 1, j + 1, false, acc, by go_num, by go_num, rfl, by omega, by omega, HN2, HO, HB⟩
                    case measure => simp [intOf]; omega
                  · have qe := isEmpty_no hp0
                    have HN2 : Hid (Lst s T (j + 1) (j + 1) false (acc ++ [pc])) := Lib.hid (by have := HN.out; unfold told at this; rw [if_neg hp0] at this; exact this)
                    have HO2 := Lib.hid (show OwnStrs w1.heap.size (wr.alloc (.cells #[.string pc] 9)) u5 acc from HO.out.alloc _)
                    have HS2 := Lib.hid (strsIn_one wr 9 pc)
                    have HB2 := Lib.hid (HB.out.alloc (o := .cells #[.string pc] 9) HB.out.size)
                    have HLEN := Lib.hid (show acc.length + [pc].length ≤ 1000000000000 by simp; omega)
                    clear hp0 HN
                    go_wp2_with (at_builtin; refine wpList_append_strs rfl _ _ rfl w1.heap.size (wr.alloc (.cells #[.string pc] 9)).heap.size u5 acc rfl HO2.out HB2.out.size (some ⟨wr.heap.size, 0, none⟩) 1 1 [pc] rfl rfl HS2.out (fun e => by cases e) HLEN.out ?_)
                    intro v4 w4 ho4 hg4
                    have HO4 := Lib.hid ho4
                    have HB4 := Lib.hid (HB2.out.grown hg4 HB2.out.size (fun g hg => (World.ownsRow.lt HO2.out g hg).1))
                    clear ho4 hg4 HO2 HS2 HB2
                    go_wp2
                    go_roundw
                    case rel => exact ⟨j + 1, j + 1, false, acc ++ [pc], by go_num, by go_num, rfl, by omega, by simp; omega, HN2, HO4, HB4⟩
                    case measure => simp [intOf]; omega
                · have q44 : ((s[j].toNat : Int) == 44) = false := e44.trans (by simpa using h44)
                  have q44' : ((s[j].toNat : Int) != 44) = true := by unfold bne; rw [q44]; rfl
                  have HN := Lib.hid (lst_other HLS.out hjl h34 (fun h => by cases h) (fun _ => h44))
                  obtain ⟨t92, ht92⟩ : ∃ t, ((s[j].toNat : Int) == 92) = t := ⟨_, rfl⟩
                  clear e34 e44 e92 h34 h44
                  cases t92 with
                  | true =>
                    go_wp2
                    go_roundw
                    case rel => exact ⟨j + 1, f, false, acc, by go_num, rfl, rfl, by omega, by omega, HN, HO, HB⟩
                    case measure => simp [intOf]; omega
                  | false =>
                    go_wp2
                    go_roundw
                    case rel => exact ⟨j + 1, f, false, acc, by go_num, rfl, rfl, by omega, by omega, HN, HO, HB⟩
                    case measure => simp [intOf]; omega
          · obtain rfl : j = s.size := by omega
            have hjl1 : ¬ (s.size : Int) < (s.size : Int) := by omega
            have HN := Lib.hid (lst_end HLS.out (s.size + 1) q)
            have hfj1 : (f : Int) ≤ (s.size : Int) := by omega
            obtain ⟨pc, hpc⟩ : ∃ pc, partAt s f s.size = pc := ⟨_, rfl⟩
            rw [hpc] at HN
            have HPC := Lib.hid (show (⟨(trimF (s.extract f s.size).data.toList).toArray⟩ : ByteArray) = pc from hpc)
            have hx1 : (s.extract f s.size).size ≤ 140737488351232 := by rw [extract_size s f s.size hfj (by omega)]; omega
            clear hpc
            go_wp2_with fail
            refine (refTrim_named _ hx1 HPC.out).mono ?_
            rintro e w3 ⟨rfl, rfl⟩
            by_cases hp0 : pc.size = 0
            · have qe := isEmpty_yes hp0
              have HN2 : Hid (Lst s T (s.size + 1) (s.size + 1) q acc) := Lib.hid (by have := HN.out; unfold told at this; rw [if_pos hp0, List.append_nil] at this; exact this)
              clear hp0 HN
              go_wp2
              go_roundw
              case rel => exact ⟨s.size + 1, s.size + 1, q, acc, by go_num, by go_num, rfl, by omega, by omega, HN2, HO, HB⟩
              case measure => simp [intOf]
            · have qe := isEmpty_no hp0
              have HN2 : Hid (Lst s T (s.size + 1) (s.size + 1) q (acc ++ [pc])) := Lib.hid (by have := HN.out; unfold told at this; rw [if_neg hp0] at this; exact this)
              have HO2 := Lib.hid (show OwnStrs w1.heap.size (wr.alloc (.cells #[.string pc] 9)) u5 acc from HO.out.alloc _)
              have HS2 := Lib.hid (strsIn_one wr 9 pc)
              have HB2 := Lib.hid (HB.out.alloc (o := .cells #[.string pc] 9) HB.out.size)
              have HLEN := Lib.hid (show acc.length + [pc].length ≤ 1000000000000 by simp; omega)
              clear hp0 HN
              go_wp2_with (at_builtin; refine wpList_append_strs rfl _ _ rfl w1.heap.size (wr.alloc (.cells #[.string pc] 9)).heap.size u5 acc rfl HO2.out HB2.out.size (some ⟨wr.heap.size, 0, none⟩) 1 1 [pc] rfl rfl HS2.out (fun e => by cases e) HLEN.out ?_)
              intro v4 w4 ho4 hg4
              have HO4 := Lib.hid ho4
              have HB4 := Lib.hid (HB2.out.grown hg4 HB2.out.size (fun g hg => (World.ownsRow.lt HO2.out g hg).1))
              clear ho4 hg4 HO2 HS2 HB2
              go_wp2
              go_roundw
              case rel => exact ⟨s.size + 1, s.size + 1, q, acc ++ [pc], by go_num, by go_num, rfl, by omega, by simp; omega, HN2, HO4, HB4⟩
              case measure => simp [intOf]
        · obtain ⟨rfl, hacT⟩ := lst_out HLS.out hjs
          have hjs1 : ¬ ((s.size + 1 : Nat) : Int) ≤ (s.size : Int) := by omega
          have hjs2 : ¬ (s.size : Int) + 1 ≤ (s.size : Int) := by omega
          have HN := Lib.hid (show (A.take (k + 1)).flatMap partsF = acc from by
            rw [List.take_succ_eq_append_getElem hlt2, List.flatMap_append, HR.out, HS.out, hacT, ← HT.out]
            simp)
          clear hacT
          go_wp2
          go_roundw
          case rel => exact ⟨k + 1, acc, by omega, by go_num, HN, by omega, HO, HB⟩
          case measure => simp [intOf]; omega
    · have HN := Lib.hid (show listF x l = r from by
        have := HR.out
        rw [List.take_of_length_le (by have := HNA.out; omega)] at this
        rw [HL.out, this])
      go_wp2
      go_ret
      rw [HN.out]
      exact ⟨_, rfl, ownsRow_base HO.out HB1.out.size, HB1.out.trans (HB.out.mono HB1.out.size)⟩
end Go.Proofs.YtjpmofnnjdhamaaGreatDoor.HeadS
namespace Go.Proofs.YtjpmofnnjdhamaaGreatDoor.HeadS
open Go.RowKit HeadMath

theorem endF_plain : ∀ (l r : List UInt8), (∀ c ∈ l, c ≠ 34 ∧ c ≠ 44) → endF false false (l ++ r) = l.length + endF false false r
  | [], r, _ => by simp
  | c :: l, r, h => by
    have h1 := h c (List.mem_cons_self ..)
    have ih := endF_plain l r (fun d hd => h d (List.mem_cons_of_mem _ hd))
    rw [List.cons_append]
    simp only [endF, if_neg h1.1, if_neg h1.2, List.length_cons]
    omega
/-- No comma is open in t. -/
def Closed (t : List UInt8) : Prop := ∀ r, endF false false (t ++ r) = t.length + endF false false r
theorem Closed.plain {l : List UInt8} (h : ∀ c ∈ l, c ≠ 34 ∧ c ≠ 44) : Closed l := fun r => endF_plain l r h
abbrev arr (l : List UInt8) : ByteArray := ⟨l.toArray⟩
theorem told_nil {p : ByteArray} (h : p.data.toList = []) : told p = [] := by
  unfold told
  rw [if_pos (by rw [← size_list, h]; rfl)]
theorem parts_step (t rest more : List UInt8) (hc : Closed t) (hr : (rest = [] ∧ more = []) ∨ rest = 44 :: more) : partsF (arr (t ++ rest)) = told (arr (trimF t)) ++ partsF (arr more) := by
  have hl : (arr (t ++ rest)).data.toList = t ++ rest := rfl
  have he : endOf (arr (t ++ rest)) = t.length := by
    unfold endOf
    rw [hl, hc]
    rcases hr with ⟨rfl, _⟩ | rfl
    · rfl
    · simp only [endF, if_neg (show ¬ (44 : UInt8) = 34 by decide), if_true]; omega
  have hz : (arr (t ++ rest)).size = t.length + rest.length := by rw [← size_list, hl, List.length_append]
  by_cases h0 : (arr (t ++ rest)).size = 0
  · have ht : t = [] := List.eq_nil_of_length_eq_zero (by omega)
    have hr0 : rest = [] := List.eq_nil_of_length_eq_zero (by omega)
    subst ht; subst hr0
    rcases hr with ⟨_, rfl⟩ | h
    · rw [partsF_nil h0, partsF_nil rfl, told_nil rfl]; rfl
    · cases h
  · have hp : pieceOf (arr (t ++ rest)) = arr (trimF t) := by
      unfold pieceOf
      rw [he]
      have : ((arr (t ++ rest)).extract 0 t.length).data.toList = t := by
        rw [Lib.extract_data, hl, List.drop_zero, Nat.sub_zero, List.take_append_of_le_length (Nat.le_refl _), List.take_of_length_le (Nat.le_refl _)]
      rw [this]
    have hrest : restOf (arr (t ++ rest)) = arr more := by
      apply data_inj
      unfold restOf
      rw [Lib.extract_to_end, he, hl, hz]
      show _ = more
      rcases hr with ⟨rfl, rfl⟩ | rfl
      · rw [List.drop_eq_nil_of_le (by simp)]
      · rw [Nat.min_eq_left (by simp), List.drop_append, List.drop_eq_nil_of_le (by omega), show t.length + 1 - t.length = 1 by omega]
        rfl
    rw [partsF, dif_neg h0, hp, hrest]
    rfl
end Go.Proofs.YtjpmofnnjdhamaaGreatDoor.HeadS
