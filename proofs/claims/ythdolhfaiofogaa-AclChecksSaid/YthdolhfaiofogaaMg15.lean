/-
  HeadReads.
  The reference's All, Get, Drop, Set, Lines.
-/
import Derived.Deep.RegionLaw
import Derived.Deep.AppendLies
import Derived.Test.YthdolhfaiofogaaProg
import Derived.Test.YthdolhfaiofogaaRows
import Derived.LaidMore
import Derived.Deep.DeepLaidRun
import Derived.SevenTiedAt
import Derived.Laws.AppendOwnNone
import Derived.SliceStrings
import Derived.ChangeOld
import Derived.Test.YthdolhfaiofogaaMg14
namespace Go.Proofs.Ythdolhfaiofogaa.HeadS
open Go.RowKit HeadMath

def parseR (ls : List ByteArray) : Fs × Int := if 100 < ls.length then ([], 91) else match parseF ls with
  | none => ([], 90)
  | some fs => (fs, 0)
def ParseS (w : World) (r : Fs × Int) (e : Ending) (w' : World) : Prop := ∃ a c, e = .returned (.tuple #[.slice a r.1.length c, .int .i64 r.2]) ∧ FieldsIn w'.heap.size w' a r.1 ∧ Below w.heap.size w w'
theorem ParsePost.slice {w w' : World} {ls : List ByteArray} {e : Ending} (h : ParsePost w ls e w') : ParseS w (parseR ls) e w' := by
  obtain ⟨hb, ⟨h, rfl⟩ | ⟨h, h1, rfl⟩ | ⟨h, fs, v, h1, rfl, hown⟩⟩ := h
  · unfold parseR
    rw [if_pos h]
    exact ⟨none, 0, rfl, fun j h => absurd h (by simp), hb⟩
  · unfold parseR
    rw [if_neg (by omega), h1]
    exact ⟨none, 0, rfl, fun j h => absurd h (by simp), hb⟩
  · unfold parseR
    rw [if_neg (by omega), h1]
    rcases hown.2 with ⟨rfl, h2⟩ | ⟨g, c, cur, rfl, _⟩
    · have h0 : fs = [] := List.eq_nil_of_length_eq_zero h2
      subst h0
      exact ⟨none, 0, rfl, fun j h => absurd h (by simp), hb⟩
    · exact ⟨_, _, rfl, fieldsIn_own hown, hb⟩
theorem strCells_one (l : List ByteArray) : ∀ u ∈ strCells l, u.oneCell' = true := by
  intro u hu
  obtain ⟨x, _, rfl⟩ := List.mem_map.1 hu
  rfl
theorem strCells_len (l : List ByteArray) : (strCells l).length = l.length := by simp [strCells]
theorem strCells_app (a b : List ByteArray) : strCells (a ++ b) = strCells a ++ strCells b := by simp [strCells]
def OwnStrs (B : Nat) (w : World) (v : Value) (l : List ByteArray) : Prop := w.ownsRow B 9 1 v l.length (strCells l)
theorem StrsIn.cells {B : Nat} {w : World} {b off : Nat} {l : List ByteArray} (h : StrsIn B w (some ⟨b, off, none⟩) l) : ∀ j u, (strCells l)[j]? = some u → w.cell? ((⟨b, off, none⟩ : Addr).add j) = some u := by
  intro j u hj
  unfold strCells at hj
  rw [List.getElem?_map] at hj
  obtain ⟨x, hx, rfl⟩ := Option.map_eq_some_iff.1 hj
  obtain ⟨hlt, rfl⟩ := List.getElem?_eq_some_iff.1 hx
  obtain ⟨b', off', he, _, hc⟩ := h j hlt
  injection he with he
  injection he with h1 h2 h3
  subst h1; subst h2
  rw [Go.Addr.add_lit]
  exact hc
/-- append of a slice of texts to a row of the call's own. -/
theorem wpList_append_strs {w : World} {ops : Array Oper} {rest : List Oper} {o : Oper} {a : Act} {Q : Exit → Act → World → Prop} (hgd : o.guard = none) (s x : Operand)
    (ho : o.op = .call { callee := .builtin .append, args := #[s, x], argTypes := #[46, 46] })
    (B B' : Nat) (v : Value) (d : List ByteArray) (hs : a.eval s = v) (hown : OwnStrs B w v d) (hB : B ≤ w.heap.size)
    (ad : Option Addr) (c n : Nat) (l : List ByteArray) (hx : a.eval x = .slice ad n c) (hn : n = l.length) (hat : StrsIn B' w ad l) (hnil : ad = none → c = 0)
    (hlen : d.length + l.length ≤ 1000000000000)
    (hK : ∀ v' w', OwnStrs B w' v' (d ++ l) → w.grownBy w' v.ownBlock → wpList Try.prog ops Q rest (a.put o.dst v') w') : wpList Try.prog ops Q (o :: rest) a w := by
  obtain ⟨i0, hi, hz0, hz1, hz2⟩ := info_parts strInfo
  subst hn
  cases ad with
  | none =>
    obtain rfl := hnil rfl
    have hl : l = [] := by
      cases l with
      | nil => rfl
      | cons y l => obtain ⟨_, _, e, _⟩ := hat 0 (by simp); cases e
    subst hl
    refine wpList_append_own_none hgd s x 46 ho B 9 i0 1 Try.underlying46 hi v d.length (strCells d) hs hown hx ?_
    exact hK v w (by rw [List.append_nil]; exact hown) ⟨rfl, rfl, rfl, Nat.le_refl _, fun _ _ _ => rfl⟩
  | some ad =>
    by_cases he : l = []
    · subst he
      refine wpList_append_own w hgd s x 46 ho B 9 i0 (.string ⟨#[]⟩) 1 16 Try.underlying46 hi hz0 hz1 hz2 rfl (by decide) v d.length (strCells d) hs hown ad 0 c [] hx rfl (by simp) (by simp) (by unfold maxLen; simp at hlen; omega) (by simp at hlen; omega) hB ?_
      intro v' w' h1 h2 _
      exact hK v' w' (by unfold OwnStrs; simpa using h1) h2
    · obtain ⟨b, off, hab, _⟩ := hat 0 (List.length_pos_iff.2 he)
      injection hab with hab
      subst hab
      refine wpList_append_own w hgd s x 46 ho B 9 i0 (.string ⟨#[]⟩) 1 16 Try.underlying46 hi hz0 hz1 hz2 rfl (by decide) v d.length (strCells d) hs hown ⟨b, off, none⟩ l.length c (strCells l) hx (by simp [strCells_len]) hat.cells (strCells_one l) (by unfold maxLen; omega) (by omega) hB ?_
      intro v' w' h1 h2 _
      exact hK v' w' (by unfold OwnStrs; rw [List.length_append, strCells_app]; exact h1) h2
end Go.Proofs.Ythdolhfaiofogaa.HeadS
namespace Go.Proofs.Ythdolhfaiofogaa.HeadS
open Go.RowKit HeadMath

set_option maxHeartbeats 4000000 in
theorem refAll_any (l : Fs) (x : ByteArray) (a : Option Addr) (cap n : Nat) (w : World) (hin : FieldsIn w.heap.size w a l) (hN : n = l.length) (hsm : SmallF l) (hle : l.length ≤ 1000000) (hx : x.size ≤ 140737488351232) :
    Calls Try.prog 41 #[.slice a n cap, .string x] w (RowPost w (allF x l)) := by
  have HIN := Lib.hid hin
  have HN := Lib.hid hN
  have HSM := Lib.hid hsm
  have hle2 : n ≤ 1000000 := by omega
  clear hin hN hsm hle
  go_enter Try.func41, Try.ntmps41
  go_wp2
  go_loopw [5, 6] (fun v i wr => ∃ (k : Nat) (r : List ByteArray), k ≤ n ∧ i = .int .i64 k ∧ Hid (allF x (l.take k) = r) ∧ r.length ≤ k ∧ Hid (OwnStrs w.heap.size wr v r) ∧ Hid (Below w.heap.size w wr)) (fun _ i _ => n - (intOf i).toNat)
  case atStart => exact ⟨0, [], Nat.zero_le _, rfl, Lib.hid rfl, Nat.le_refl _, Lib.hid (World.ownsRow_nil _ _ _ _), Lib.hid (Below.refl _ _)⟩
  case round =>
    obtain ⟨k, r, hk, rfl, HA, hrl, HO, HB⟩ := hrel
    by_cases hlt : k < n
    · have hlt2 : k < l.length := by have := HN.out; omega
      obtain ⟨b, off, rfl, hbl, hc1, hc2⟩ := HIN.out k hlt2
      have hs1 := HSM.out k hlt2
      have x0 := (HB.out.cell (p := ⟨b, off + k * 2, none⟩) hbl).trans hc1
      obtain ⟨nm, vl, hf⟩ : ∃ nm vl, l[k] = (nm, vl) := ⟨_, _, rfl⟩
      have HF := Lib.hid hf
      simp only [hf] at x0 hc2 hs1
      have HC2 := Lib.hid hc2
      obtain ⟨t, ht⟩ : ∃ t, sameF nm.data.toList x.data.toList = t := ⟨_, rfl⟩
      have HT := Lib.hid ht
      have i1 : (k : Int) < (n : Int) := by omega
      clear hc1 hc2 hf ht
      go_wp2_with fail
      refine (refSame_any nm x _ hs1.1 hx).mono ?_
      rw [HT.out]
      rintro e w1 ⟨rfl, hb1⟩
      have HB1 := Lib.hid (HB.out.trans (hb1.mono HB.out.size))
      have HO1 := Lib.hid (show OwnStrs w.heap.size w1 u5 r from ownsRow_below HO.out hb1)
      clear x0 hb1
      cases t with
      | false =>
        have HG := Lib.hid (show allF x (l.take (k + 1)) = r from by rw [allF_no hlt2 (by rw [HF.out]; exact HT.out), HA.out])
        go_wp2
        go_roundw
        case rel => exact ⟨k + 1, r, by omega, by go_num, HG, by omega, HO1, HB1⟩
        case measure => simp [intOf]; omega
      | true =>
        have HG := Lib.hid (show allF x (l.take (k + 1)) = r ++ [vl] from by rw [allF_yes hlt2 (by rw [HF.out]; exact HT.out), HA.out, HF.out])
        have y1 := (HB1.out.cell (p := ⟨b, off + k * 2 + 1, none⟩) hbl).trans HC2.out
        have HO2 := Lib.hid (show OwnStrs w.heap.size (w1.alloc (.cells #[.string vl] 9)) u5 r from HO1.out.alloc _)
        have HS2 := Lib.hid (strsIn_one w1 9 vl)
        have HB2 := Lib.hid (HB1.out.alloc (o := .cells #[.string vl] 9) HB1.out.size)
        have HLEN := Lib.hid (show r.length + [vl].length ≤ 1000000000000 by simp; omega)
        go_wp2_with (at_builtin; refine wpList_append_strs rfl _ _ rfl w.heap.size (w1.alloc (.cells #[.string vl] 9)).heap.size u5 r rfl HO2.out HB2.out.size (some ⟨w1.heap.size, 0, none⟩) 1 1 [vl] rfl rfl HS2.out (fun e => by cases e) HLEN.out ?_)
        intro v4 w4 ho4 hg4
        have HO4 := Lib.hid ho4
        have HB4 := Lib.hid (HB2.out.grown hg4 HB2.out.size (fun g hg => (World.ownsRow.lt HO2.out g hg).1))
        clear ho4 hg4 HO2 HS2 HB2 HO1 HB1 y1
        go_wp2
        go_roundw
        case rel => exact ⟨k + 1, r ++ [vl], by omega, by go_num, HG, by simp; omega, HO4, HB4⟩
        case measure => simp [intOf]; omega
    · have HG := Lib.hid (show allF x l = r from by have := HA.out; rwa [List.take_of_length_le (by have := HN.out; omega)] at this)
      go_wp2
      go_ret
      rw [HG.out]
      exact ⟨_, rfl, HO.out, HB.out⟩
theorem allF_first {n : ByteArray} {l : Fs} {v : ByteArray} {r : List ByteArray} (h : allF n l = v :: r) : getF n l = some v := by
  unfold allF at h
  unfold getF
  induction l with
  | nil => cases h
  | cons f l ih =>
    rw [List.filter_cons] at h
    rw [List.find?_cons]
    cases hf : isNamed n f with
    | true => rw [hf] at h; simp at h; simp [h.1]
    | false => rw [hf] at h; simp at h; simp only; exact ih (by simpa using h)
theorem allF_nil {n : ByteArray} {l : Fs} (h : allF n l = []) : getF n l = none := by
  refine getF_none (fun j hj => ?_)
  unfold allF at h
  rw [List.map_eq_nil_iff, List.filter_eq_nil_iff] at h
  simpa using h _ (List.getElem_mem hj)
set_option maxHeartbeats 1000000 in
theorem refGet_any (l : Fs) (x : ByteArray) (a : Option Addr) (cap n : Nat) (w : World) (hin : FieldsIn w.heap.size w a l) (hN : n = l.length) (hsm : SmallF l) (hle : l.length ≤ 1000000) (hx : x.size ≤ 140737488351232) :
    Calls Try.prog 27 #[.slice a n cap, .string x] w (GetPost x l w) := by
  have HC := Lib.hid ((refAll_any l x a cap n w hin hN hsm hle hx).mono fun _ _ h => h.slice)
  clear hin hN hsm hle
  go_enter Try.func27, Try.ntmps27
  go_wp2_with fail
  refine HC.out.mono ?_
  rintro e w1 ⟨a1, c1, rfl, hs1, hb1⟩
  obtain ⟨r, hr⟩ : ∃ r, allF x l = r := ⟨_, rfl⟩
  rw [hr] at hs1 ⊢
  have HR := Lib.hid hr
  have HB := Lib.hid hb1
  cases r with
  | nil =>
    clear hr hs1 hb1 HC
    go_wp2
    go_ret2
    exact ⟨HB.out, .inl ⟨allF_nil HR.out, rfl⟩⟩
  | cons v r =>
    obtain ⟨b, off, rfl, _, hc⟩ := hs1 0 (by simp)
    simp only [List.getElem_cons_zero, Nat.add_zero] at hc
    obtain ⟨m, hm⟩ : ∃ m, (v :: r).length = m := ⟨_, rfl⟩
    have q : ((m : Int) == 0) = false := by rw [beq_eq_false_iff_ne]; rw [← hm]; simp; omega
    have q2 : (0 : Int) < (m : Int) := by rw [← hm]; simp
    have q3 : 0 < m := by omega
    rw [hm]
    clear hr hb1 HC hm
    go_wp2
    go_ret2
    exact ⟨HB.out, .inr ⟨v, allF_first HR.out, rfl⟩⟩
end Go.Proofs.Ythdolhfaiofogaa.HeadS
