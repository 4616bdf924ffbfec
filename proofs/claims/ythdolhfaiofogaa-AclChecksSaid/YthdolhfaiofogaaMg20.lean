/-
  What a request is checked by: its method, its Host's value, its path.
  acl.Check: the first rule that fits.
  The reference's Check.
  The law's own example.
  ambryhelp.LightQ: a request that may be asked.
  AclChecks' walk.
  A rule's text is read as it.
  AclReads' walk.
  Rules appended to a rule of the call's own.
  AclFirst's walk.
-/
import Derived.Deep.AppendLies
import Derived.Laws.AppendOwnNone
import Derived.Laws.OwnMore
import Derived.Deep.RegionHeld3
import Derived.Test.YthdolhfaiofogaaMg1
import Derived.Test.YthdolhfaiofogaaMg8
import Derived.Test.YthdolhfaiofogaaMg11
import Derived.Test.YthdolhfaiofogaaMg13
import Derived.Test.YthdolhfaiofogaaMg15
import Derived.Test.YthdolhfaiofogaaMg19
import Derived.Test.YthdolhfaiofogaaMg21
import Derived.Test.YthdolhfaiofogaaMg22
namespace Go.Proofs.Ythdolhfaiofogaa
open Go.RowKit GlobMath HeadMath NormMath HeadS NormS

def hostName : ByteArray := ⟨#[72, 111, 115, 116]⟩
def hostOf (fs : List (ByteArray × ByteArray)) : ByteArray := (getF hostName fs).getD ⟨#[]⟩
def hostS (fs : List (ByteArray × ByteArray)) : ByteArray := ⟨(hostF (hostOf fs).data.toList).toArray⟩
def pathOf (s : ByteArray) : ByteArray := if askAt s < 0 then s else s.extract 0 (askAt s).toNat
theorem splitV_path (s : ByteArray) : ∃ q b, splitV s = .tuple #[.string (pathOf s), .string q, .bool b] := by
  unfold splitV pathOf
  split
  · exact ⟨_, _, rfl⟩
  · exact ⟨_, _, rfl⟩
theorem pathOf_size (s : ByteArray) : (pathOf s).size ≤ s.size := by
  unfold pathOf
  split
  · exact Nat.le_refl _
  · rw [ByteArray.size_extract]; omega
def FewF (fs : List (ByteArray × ByteArray)) : Prop := fs.length ≤ 1000000 ∧ ∀ j (h : j < fs.length), fs[j].1.size ≤ 1000000 ∧ fs[j].2.size ≤ 1000000
theorem FewF.small {fs : List (ByteArray × ByteArray)} (h : FewF fs) : SmallF fs := fun j hj => by have := h.2 j hj; omega
theorem hostOf_size {fs : List (ByteArray × ByteArray)} (h : FewF fs) : (hostOf fs).size ≤ 1000000 := by
  unfold hostOf getF
  cases hf : fs.find? (isNamed hostName) with
  | none => simp [ByteArray.size]
  | some f =>
    obtain ⟨j, hj, rfl⟩ := List.getElem_of_mem (List.mem_of_find?_eq_some hf)
    exact (h.2 j hj).2
theorem hostS_size {fs : List (ByteArray × ByteArray)} (h : FewF fs) : (hostS fs).size ≤ 1000000 := by
  have h1 := hostOf_size h
  have h2 : (hostF (hostOf fs).data.toList).length ≤ (hostOf fs).data.toList.length := by
    unfold hostF
    refine Nat.le_trans (Lib.trimSuffix_le _ _) ?_
    simp [lowF]
  show (hostF (hostOf fs).data.toList).toArray.size ≤ _
  rw [size_list] at h2
  simp only [List.size_toArray]
  omega
/-- What Get finds of Host, told in one way. -/
theorem get_host {fs : List (ByteArray × ByteArray)} {w w' : World} {e : Ending} (h : GetPost hostName fs w e w') : Below w.heap.size w w' ∧ ∃ b, e = .returned (.tuple #[.string (hostOf fs), .bool b]) := by
  refine ⟨h.1, ?_⟩
  rcases h.2 with ⟨h1, rfl⟩ | ⟨v, h1, rfl⟩
  · exact ⟨false, by unfold hostOf; rw [h1]; rfl⟩
  · exact ⟨true, by unfold hostOf; rw [h1]; rfl⟩
def checkV (l : List RuleR) (m : ByteArray) (fs : List (ByteArray × ByteArray)) (t : ByteArray) : Value := checkF m.data.toList (hostS fs).data.toList (pathOf t).data.toList l 0
def LightRs (l : List RuleR) : Prop := l.length ≤ 1000000 ∧ ∀ j (h : j < l.length), l[j].method.size ≤ 1000000 ∧ l[j].host.size ≤ 1000000 ∧ l[j].path.size ≤ 1000000
theorem RulesAt.below {w w' : World} {a : Option Addr} {l : List RuleR} {B : Nat} (h : RulesAt w a l) (hb : Below B w w') (hB : B = w.heap.size) : RulesAt w' a l := by
  subst hB
  exact h.spares (Below.spares (F := nowhere) hb (fun k hk => .inr hk)) (fun b _ h => by cases h)
theorem fieldsIn_below' {B : Nat} {w w' : World} {a : Option Addr} {l : List (ByteArray × ByteArray)} (h : FieldsIn B w a l) (hb : Below B w w') : FieldsIn B w' a l := by
  intro j hj
  obtain ⟨b, off, h1, h2, h3, h4⟩ := h j hj
  exact ⟨b, off, h1, h2, (hb.cell (p := ⟨b, off + j * 2, none⟩) h2).trans h3, (hb.cell (p := ⟨b, off + j * 2 + 1, none⟩) h2).trans h4⟩
end Go.Proofs.Ythdolhfaiofogaa
namespace Go.Proofs.Ythdolhfaiofogaa
open Go.RowKit GlobMath HeadMath NormMath HeadS NormS

def CheckPost (v : Value) (w : World) (e : Ending) (w' : World) : Prop := e = .returned v ∧ Below w.heap.size w w'
def reqV (m t : ByteArray) (qf qb : Value) : Value := .agg #[.string m, .string t, qf, qb]
theorem copy_cells {w : World} {a m h p : Value} {t : TypeId} : let v := w.alloc (.cells #[a, m, h, p] t)
    v.cell? ⟨w.heap.size, 0, none⟩ = some a ∧ v.cell? ⟨w.heap.size, 1, none⟩ = some m ∧ v.cell? ⟨w.heap.size, 2, none⟩ = some h ∧ v.cell? ⟨w.heap.size, 3, none⟩ = some p := by
  refine ⟨?_, ?_, ?_, ?_⟩ <;> simp [go_sem]

set_option maxHeartbeats 16000000 in
theorem check_any (a : Option Addr) (c : Nat) (l : List RuleR) (m t : ByteArray) (fa : Option Addr) (fc : Nat) (fs : List (ByteArray × ByteArray)) (ba : Option Addr) (bn bc : Nat) (w : World)
    (hat : RulesAt w a l) (hl : LightRs l) (hm : m.size ≤ 1000000) (ht : t.size ≤ 1000000) (hin : FieldsIn w.heap.size w fa fs) (hfs : FewF fs) :
    Calls Try.prog 14 #[.slice a l.length c, reqV m t (.slice fa fs.length fc) (.slice ba bn bc)] w (CheckPost (checkV l m fs t) w) := by
  obtain ⟨w0, hw0⟩ : ∃ w0, w.alloc (.cells #[.string m, .string t, .slice fa fs.length fc, .slice ba bn bc] 38) = w0 := ⟨_, rfl⟩
  have hb0 : Below w.heap.size w w0 := by rw [← hw0]; exact ((Spares.refl nowhere w).alloc _).below0
  have hz0 : w0.heap.size = w.heap.size + 1 := by rw [← hw0]; simp
  have q0 : w0.cell? ⟨w.heap.size, 0, none⟩ = some (.string m) := by rw [← hw0]; simp [go_sem]
  have q1 : w0.cell? ⟨w.heap.size, 1, none⟩ = some (.string t) := by rw [← hw0]; simp [go_sem]
  have q2 : w0.cell? ⟨w.heap.size, 2, none⟩ = some (.slice fa fs.length fc) := by rw [← hw0]; simp [go_sem]
  have HAT : Hid (RulesAt w0 a l) := Lib.hid (hat.below hb0 rfl)
  have HIN : Hid (FieldsIn w0.heap.size w0 fa fs) := Lib.hid (by
    intro j hj
    obtain ⟨b, off, h1, h2, h3, h4⟩ := fieldsIn_below' hin hb0 j hj
    exact ⟨b, off, h1, by omega, h3, h4⟩)
  have HB0 := Lib.hid hb0
  have HW0 := Lib.hid hw0
  have HFS := Lib.hid hfs
  have HL := Lib.hid hl
  have hl0 := hl.1
  have hp0 := pathOf_size t
  have hh0 := hostS_size hfs
  obtain ⟨hs, hhs⟩ : ∃ hs, hostS fs = hs := ⟨_, rfl⟩
  obtain ⟨pt, hpt⟩ : ∃ pt, pathOf t = pt := ⟨_, rfl⟩
  have HV : Hid (checkV l m fs t = checkF m.data.toList hs.data.toList pt.data.toList l 0) := Lib.hid (by rw [← hhs, ← hpt]; rfl)
  rw [hpt] at hp0
  rw [hhs] at hh0
  have HH := Lib.hid hhs
  have HP := Lib.hid hpt
  clear hat hin hb0 hw0 hfs hl hhs hpt
  unfold reqV CheckPost
  rw [HV.out]
  go_enter Try.func14, Try.ntmps14
  go_wp2_with fail
  change Calls _ _ _ (w.alloc (.cells #[.string m, .string t, .slice fa fs.length fc, .slice ba bn bc] 38)) _
  rw [HW0.out]
  refine (get_any fs hostName fa fc w0 HIN.out HFS.out.small (by have := HFS.out.1; omega) (by decide)).mono ?_
  rintro e w1 h1
  obtain ⟨hb1, bh, rfl⟩ := get_host h1
  clear h1
  go_wp2_with fail
  refine (host_any (hostOf fs) w1 (by have := hostOf_size HFS.out; omega)).mono ?_
  rintro e w2 ⟨he, hb2⟩
  replace he : e = .returned (.string hs) := by rw [← HH.out]; exact he
  subst he
  replace hb2 := hb1.trans (hb2.mono hb1.size)
  clear hb1
  have p1 : w2.cell? ⟨w.heap.size, 1, none⟩ = some (.string t) := (hb2.cell (p := ⟨w.heap.size, 1, none⟩) (by show w.heap.size < _; omega)).trans q1
  go_wp2_with fail
  refine (split_any t w2 (by omega)).mono ?_
  rintro e w3 ⟨dm, rfl, rfl⟩
  obtain ⟨sq, sb, hsv⟩ := splitV_path t
  rw [HP.out] at hsv
  rw [hsv]
  clear hsv p1
  obtain ⟨w3, hw3⟩ : ∃ w3, w2.drewN dm = w3 := ⟨_, rfl⟩
  have hb3 : Below w0.heap.size w0 w3 := by rw [← hw3]; exact below_drewN hb2 dm
  rw [hw3]
  clear hw3 hb2

  clear q1 q2
  have HQ := Lib.hid q0
  clear q0 HIN HFS
  go_wp2
  go_loopw [30] (fun i wr => ∃ k : Nat, k ≤ l.length ∧ i = .int .i64 k ∧ Hid (checkF m.data.toList hs.data.toList pt.data.toList (l.drop k) k = checkF m.data.toList hs.data.toList pt.data.toList l 0) ∧ Hid (Below w0.heap.size w0 wr)) (fun i _ => l.length - (intOf i).toNat)
  case atStart => exact ⟨0, Nat.zero_le _, rfl, Lib.hid (by rw [List.drop_zero]), Lib.hid hb3⟩
  case round =>
    obtain ⟨k, hk, rfl, HC, HB⟩ := hrel
    by_cases hkl : k < l.length
    · obtain ⟨b, off, rfl, h0, h1, h2, h3⟩ := (HAT.out.below HB.out rfl) k hkl
      obtain ⟨r, hr⟩ : ∃ r, l[k] = r := ⟨_, rfl⟩
      have HR := Lib.hid hr
      have hrs := HL.out.2 k hkl
      rw [hr] at h0 h1 h2 h3 hrs
      clear hr
      obtain ⟨v, hv⟩ : ∃ v, wr.alloc (.cells #[.bool r.allow, .string r.method, .string r.host, .string r.path] 23) = v := ⟨_, rfl⟩
      have hbv : Below w0.heap.size w0 v := by rw [← hv]; exact HB.out.alloc HB.out.size _
      have hzv : v.heap.size = wr.heap.size + 1 := by rw [← hv]; simp
      have hcc : v.cell? ⟨wr.heap.size, 0, none⟩ = some (.bool r.allow) ∧ v.cell? ⟨wr.heap.size, 1, none⟩ = some (.string r.method) ∧ v.cell? ⟨wr.heap.size, 2, none⟩ = some (.string r.host) ∧ v.cell? ⟨wr.heap.size, 3, none⟩ = some (.string r.path) := by rw [← hv]; exact copy_cells
      obtain ⟨c0, c1, c2, c3⟩ := hcc
      have qm : v.cell? ⟨w.heap.size, 0, none⟩ = some (.string m) := (hbv.cell (p := ⟨w.heap.size, 0, none⟩) (by show w.heap.size < _; omega)).trans HQ.out
      have qr : wr.cell? ⟨w.heap.size, 0, none⟩ = some (.string m) := (HB.out.cell (p := ⟨w.heap.size, 0, none⟩) (by show w.heap.size < _; omega)).trans HQ.out
      have hlt : w.heap.size < wr.heap.size := by have := HB.out.size; omega
      have HVV := Lib.hid hv
      have HBV := Lib.hid hbv
      have hne : ¬ w.heap.size = wr.heap.size := by omega
      clear hv hbv
      go_wp2_with fail
      change Calls _ _ _ (wr.alloc (.cells #[.bool r.allow, .string r.method, .string r.host, .string r.path] 23)) _
      rw [HVV.out]
      refine (match_any r.method m v (by omega) (by omega)).mono ?_
      rintro e x1 ⟨rfl, hx1⟩
      clear h0 h1 h2 h3 qr
      have C0 := Lib.hid c0
      have C3 := Lib.hid c3
      have d2 : x1.cell? ⟨wr.heap.size, 2, none⟩ = some (.string r.host) := (hx1.cell (p := ⟨wr.heap.size, 2, none⟩) (by show wr.heap.size < _; omega)).trans c2
      clear c0 c1 c2 c3
      cases hm1 : matchF r.method.data.toList m.data.toList with
      | false =>
        have HM := Lib.hid (checkF_miss hkl (m := m.data.toList) (h := hs.data.toList) (p := pt.data.toList) (by rw [HR.out, hm1]; rfl))
        clear d2 hm1
        have HX := Lib.hid hx1
        clear hx1
        go_wp2
        go_roundw
        case rel => exact ⟨k + 1, by omega, by go_num, Lib.hid (HM.out.symm.trans HC.out), Lib.hid (HBV.out.trans (HX.out.mono HBV.out.size))⟩
        case measure => simp [intOf]; omega
      | true =>
        have HM1 := Lib.hid hm1
        clear hm1 qm
        go_wp2_with fail
        refine (match_any r.host hs x1 (by omega) (by omega)).mono ?_
        rintro e x2 ⟨rfl, hx2⟩
        replace hx2 := hx1.trans (hx2.mono hx1.size)
        have e3 : x2.cell? ⟨wr.heap.size, 3, none⟩ = some (.string r.path) := (hx2.cell (p := ⟨wr.heap.size, 3, none⟩) (by show wr.heap.size < _; omega)).trans C3.out
        clear d2 hx1
        cases hm2 : matchF r.host.data.toList hs.data.toList with
        | false =>
          have HM := Lib.hid (checkF_miss hkl (m := m.data.toList) (h := hs.data.toList) (p := pt.data.toList) (by rw [HR.out, HM1.out, hm2]; rfl))
          clear e3 hm2
          have HX := Lib.hid hx2
          clear hx2
          go_wp2
          go_roundw
          case rel => exact ⟨k + 1, by omega, by go_num, Lib.hid (HM.out.symm.trans HC.out), Lib.hid (HBV.out.trans (HX.out.mono HBV.out.size))⟩
          case measure => simp [intOf]; omega
        | true =>
          have HM2 := Lib.hid hm2
          clear hm2
          go_wp2_with fail
          refine (match_any r.path pt x2 (by omega) (by omega)).mono ?_
          rintro e x3 ⟨rfl, hx3⟩
          replace hx3 := hx2.trans (hx3.mono hx2.size)
          have f0 : x3.cell? ⟨wr.heap.size, 0, none⟩ = some (.bool r.allow) := (hx3.cell (p := ⟨wr.heap.size, 0, none⟩) (by show wr.heap.size < _; omega)).trans C0.out
          clear e3 hx2
          cases hm3 : matchF r.path.data.toList pt.data.toList with
          | false =>
            have HM := Lib.hid (checkF_miss hkl (m := m.data.toList) (h := hs.data.toList) (p := pt.data.toList) (by rw [HR.out, HM1.out, HM2.out, hm3]; rfl))
            clear f0 hm3
            have HX := Lib.hid hx3
            clear hx3
            go_wp2
            go_roundw
            case rel => exact ⟨k + 1, by omega, by go_num, Lib.hid (HM.out.symm.trans HC.out), Lib.hid (HBV.out.trans (HX.out.mono HBV.out.size))⟩
            case measure => simp [intOf]; omega
          | true =>
            have HG := Lib.hid (checkF_hit hkl (m := m.data.toList) (h := hs.data.toList) (p := pt.data.toList) (by rw [HR.out, HM1.out, HM2.out, hm3]; rfl))
            clear hm3
            have HX := Lib.hid hx3
            clear hx3
            go_wp2
            go_ret2
            exact ⟨by rw [← HC.out, HG.out, HR.out]; rfl, HB0.out.trans ((HBV.out.trans (HX.out.mono HBV.out.size)).mono HB0.out.size)⟩
    · have HE := Lib.hid (checkF_end (l := l) (m := m.data.toList) (h := hs.data.toList) (p := pt.data.toList) (k := k) (by omega))
      go_wp2
      go_ret2
      exact ⟨by rw [← HC.out, HE.out]; rfl, HB0.out.trans (HB.out.mono HB0.out.size)⟩
end Go.Proofs.Ythdolhfaiofogaa
namespace Go.Proofs.Ythdolhfaiofogaa
open Go.RowKit GlobMath HeadMath NormMath HeadS NormS

def YesPost (b : Bool) (w : World) (e : Ending) (w' : World) : Prop := e = .returned (.bool b) ∧ Below w.heap.size w w'
theorem refMatch_is {p s : ByteArray} {b : Bool} (h : matchF p.data.toList s.data.toList = b) (hp : p.size ≤ 1000000) (hs : s.size ≤ 1000000) (w : World) : Calls Try.prog 28 #[.string p, .string s] w (YesPost b w) := by
  subst h
  exact refMatch_any p s w (by omega) (by omega)
def TextIs (v : Value) (w : World) (e : Ending) (w' : World) : Prop := e = .returned v ∧ Below w.heap.size w w'
set_option maxHeartbeats 16000000 in
theorem refCheck_any (a : Option Addr) (c : Nat) (l : List RuleR) (m t : ByteArray) (fa : Option Addr) (fc : Nat) (fs : List (ByteArray × ByteArray)) (ba : Option Addr) (bn bc : Nat) (w : World)
    (hat : RulesAt w a l) (hl : LightRs l) (hm : m.size ≤ 1000000) (ht : t.size ≤ 1000000) (hin : FieldsIn w.heap.size w fa fs) (hfs : FewF fs) :
    Calls Try.prog 15 #[.slice a l.length c, reqV m t (.slice fa fs.length fc) (.slice ba bn bc)] w (CheckPost (checkV l m fs t) w) := by
  obtain ⟨w0, hw0⟩ : ∃ w0, w.alloc (.cells #[.string m, .string t, .slice fa fs.length fc, .slice ba bn bc] 38) = w0 := ⟨_, rfl⟩
  have hb0 : Below w.heap.size w w0 := by rw [← hw0]; exact ((Spares.refl nowhere w).alloc _).below0
  have hz0 : w0.heap.size = w.heap.size + 1 := by rw [← hw0]; simp
  have q0 : w0.cell? ⟨w.heap.size, 0, none⟩ = some (.string m) := by rw [← hw0]; simp [go_sem]
  have q1 : w0.cell? ⟨w.heap.size, 1, none⟩ = some (.string t) := by rw [← hw0]; simp [go_sem]
  have q2 : w0.cell? ⟨w.heap.size, 2, none⟩ = some (.slice fa fs.length fc) := by rw [← hw0]; simp [go_sem]
  have HAT : Hid (RulesAt w0 a l) := Lib.hid (hat.below hb0 rfl)
  have HIN : Hid (FieldsIn w0.heap.size w0 fa fs) := Lib.hid (by
    intro j hj
    obtain ⟨b, off, h1, h2, h3, h4⟩ := fieldsIn_below' hin hb0 j hj
    exact ⟨b, off, h1, by omega, h3, h4⟩)
  have HB0 := Lib.hid hb0
  have HW0 := Lib.hid hw0
  have HFS := Lib.hid hfs
  have HL := Lib.hid hl
  have hl0 := hl.1
  have hp0 := pathOf_size t
  have hh0 := hostS_size hfs
  obtain ⟨hs, hhs⟩ : ∃ hs, hostS fs = hs := ⟨_, rfl⟩
  obtain ⟨pt, hpt⟩ : ∃ pt, pathOf t = pt := ⟨_, rfl⟩
  have HV : Hid (checkV l m fs t = checkF m.data.toList hs.data.toList pt.data.toList l 0) := Lib.hid (by rw [← hhs, ← hpt]; rfl)
  rw [hpt] at hp0
  rw [hhs] at hh0
  have HH := Lib.hid hhs
  have HP := Lib.hid hpt
  clear hat hin hb0 hw0 hfs hl hhs hpt
  unfold reqV CheckPost
  rw [HV.out]
  go_enter Try.func15, Try.ntmps15
  go_wp2_with fail
  change Calls _ _ _ (w.alloc (.cells #[.string m, .string t, .slice fa fs.length fc, .slice ba bn bc] 38)) _
  rw [HW0.out]
  refine (refGet_any fs hostName fa fc fs.length w0 HIN.out rfl HFS.out.small HFS.out.1 (by decide)).mono ?_
  rintro e w1 h1
  obtain ⟨hb1, bh, rfl⟩ := get_host h1
  clear h1
  obtain ⟨ho, hho⟩ : ∃ x, hostOf fs = x := ⟨_, rfl⟩
  have CH : Hid (∀ W, Calls Try.prog 29 #[.string ho] W (TextIs (.string hs) W)) := Lib.hid (fun W => by
    rw [← HH.out, ← hho]
    exact refHost_any (hostOf fs) W (by have := hostOf_size HFS.out; omega))
  rw [hho]
  clear hho
  have p1 : w1.cell? ⟨w.heap.size, 1, none⟩ = some (.string t) := (hb1.cell (p := ⟨w.heap.size, 1, none⟩) (by show w.heap.size < _; omega)).trans q1
  go_wp2_with fail
  refine (refSplit_any t w1 (by omega)).mono ?_
  rintro e w3 ⟨dm, rfl, rfl⟩
  obtain ⟨sq, sb, hsv⟩ := splitV_path t
  rw [HP.out] at hsv
  rw [hsv]
  clear hsv p1
  obtain ⟨w3, hw3⟩ : ∃ w3, w1.drewN dm = w3 := ⟨_, rfl⟩
  have hb3 : Below w0.heap.size w0 w3 := by rw [← hw3]; exact below_drewN hb1 dm
  rw [hw3]
  clear hw3 hb1 q1 q2
  have HQ := Lib.hid q0
  clear q0 HIN HFS
  go_wp2
  go_loopw [11] (fun i wr => ∃ k : Nat, k ≤ l.length ∧ i = .int .i64 k ∧ Hid (checkF m.data.toList hs.data.toList pt.data.toList (l.drop k) k = checkF m.data.toList hs.data.toList pt.data.toList l 0) ∧ Hid (Below w0.heap.size w0 wr)) (fun i _ => l.length - (intOf i).toNat)
  case atStart => exact ⟨0, Nat.zero_le _, rfl, Lib.hid (by rw [List.drop_zero]), Lib.hid hb3⟩
  case round =>
    obtain ⟨k, hk, rfl, HC, HB⟩ := hrel
    by_cases hkl : k < l.length
    · obtain ⟨b, off, rfl, h0, h1, h2, h3⟩ := (HAT.out.below HB.out rfl) k hkl
      obtain ⟨⟨al, rm, rh, rp⟩, hr⟩ : ∃ r, l[k] = r := ⟨_, rfl⟩
      have HR := Lib.hid hr
      have hrs := HL.out.2 k hkl
      rw [hr] at h0 h1 h2 h3 hrs
      simp only at h0 h1 h2 h3 hrs
      clear hr
      have qm : wr.cell? ⟨w.heap.size, 0, none⟩ = some (.string m) := (HB.out.cell (p := ⟨w.heap.size, 0, none⟩) (by show w.heap.size < _; omega)).trans HQ.out
      have hblt := cell_in h0
      have HC0 := Lib.hid h0
      have CK : Hid (∀ x : Kin wr, Calls Try.prog 29 #[.string ho] x.wd fun e w'' => e = .returned (.string hs) ∧ ∃ y : Kin wr, w'' = y.wd) := Lib.hid (fun x => Kin.calls (CH.out x.wd))
      have qk : ∀ x : Kin wr, x.wd.cell? ⟨w.heap.size, 0, none⟩ = some (.string m) := fun x => x.cell qm
      have k1 : ∀ x : Kin wr, x.wd.cell? ⟨b, off + k * 4 + 1, none⟩ = some (.string rm) := fun x => x.cell h1
      have k2 : ∀ x : Kin wr, x.wd.cell? ⟨b, off + k * 4 + 2, none⟩ = some (.string rh) := fun x => x.cell h2
      have k3 : ∀ x : Kin wr, x.wd.cell? ⟨b, off + k * 4 + 3, none⟩ = some (.string rp) := fun x => x.cell h3
      clear h0 h1 h2 h3 qm
      cases hm1 : matchF rm.data.toList m.data.toList with
      | false =>
        have HM1 := Lib.hid hm1
        have M1 : Hid (∀ x : Kin wr, Calls Try.prog 28 #[.string rm, .string m] x.wd fun e w'' => e = .returned (.bool false) ∧ ∃ y : Kin wr, w'' = y.wd) := Lib.hid (fun x => Kin.calls (refMatch_is hm1 (by omega) (by omega) x.wd))
        clear hm1
        go_wp2
        refine wp_region_kin (by kernel_rfl) (by kernel_rfl) ?_
        repeat (go_big_quiet_step (first | (go_at_call 28; with_reducible exact M1.out _)))
        refine wpQuiet_nil ?_
        intro _ hx
        obtain ⟨x, rfl⟩ := hx
        obtain ⟨wx, hwx⟩ : ∃ wx, x.wd = wx := ⟨_, rfl⟩
        have HX : Hid (Below w0.heap.size w0 wx) := Lib.hid (by rw [← hwx]; exact HB.out.trans (x.below.mono HB.out.size))
        have HM := Lib.hid (checkF_miss hkl (m := m.data.toList) (h := hs.data.toList) (p := pt.data.toList) (by rw [HR.out]; show (matchF rm.data.toList _ && (matchF rh.data.toList _ && matchF rp.data.toList _)) = false; rw [HM1.out]; rfl))
        rw [hwx]
        clear hwx k1 k2 k3 qk x
        go_wp2
        go_round
        case rel => exact ⟨k + 1, by omega, by go_num, Lib.hid (HM.out.symm.trans HC.out), HX⟩
        case measure => simp [intOf]; omega
      | true =>
        have HM1 := Lib.hid hm1
        have M1 : Hid (∀ x : Kin wr, Calls Try.prog 28 #[.string rm, .string m] x.wd fun e w'' => e = .returned (.bool true) ∧ ∃ y : Kin wr, w'' = y.wd) := Lib.hid (fun x => Kin.calls (refMatch_is hm1 (by omega) (by omega) x.wd))
        clear hm1
        cases hm2 : matchF rh.data.toList hs.data.toList with
        | false =>
          have HM2 := Lib.hid hm2
          have M2 : Hid (∀ x : Kin wr, Calls Try.prog 28 #[.string rh, .string hs] x.wd fun e w'' => e = .returned (.bool false) ∧ ∃ y : Kin wr, w'' = y.wd) := Lib.hid (fun x => Kin.calls (refMatch_is hm2 (by omega) (by omega) x.wd))
          clear hm2
          go_wp2
          refine wp_region_kin (by kernel_rfl) (by kernel_rfl) ?_
          repeat (go_big_quiet_step (first | (go_at_call 28; with_reducible exact M1.out _) | (go_at_call 29; with_reducible exact CK.out _) | (go_at_call 28; with_reducible exact M2.out _)))
          refine wpQuiet_nil ?_
          intro _ hx
          obtain ⟨x, rfl⟩ := hx
          obtain ⟨wx, hwx⟩ : ∃ wx, x.wd = wx := ⟨_, rfl⟩
          have HX : Hid (Below w0.heap.size w0 wx) := Lib.hid (by rw [← hwx]; exact HB.out.trans (x.below.mono HB.out.size))
          have HM := Lib.hid (checkF_miss hkl (m := m.data.toList) (h := hs.data.toList) (p := pt.data.toList) (by rw [HR.out]; show (matchF rm.data.toList _ && (matchF rh.data.toList _ && matchF rp.data.toList _)) = false; rw [HM1.out, HM2.out]; rfl))
          rw [hwx]
          clear hwx k1 k2 k3 qk x
          go_wp2
          go_round
          case rel => exact ⟨k + 1, by omega, by go_num, Lib.hid (HM.out.symm.trans HC.out), HX⟩
          case measure => simp [intOf]; omega
        | true =>
          have HM2 := Lib.hid hm2
          have M2 : Hid (∀ x : Kin wr, Calls Try.prog 28 #[.string rh, .string hs] x.wd fun e w'' => e = .returned (.bool true) ∧ ∃ y : Kin wr, w'' = y.wd) := Lib.hid (fun x => Kin.calls (refMatch_is hm2 (by omega) (by omega) x.wd))
          clear hm2
          cases hm3 : matchF rp.data.toList pt.data.toList with
          | false =>
            have HM3 := Lib.hid hm3
            have M3 : Hid (∀ x : Kin wr, Calls Try.prog 28 #[.string rp, .string pt] x.wd fun e w'' => e = .returned (.bool false) ∧ ∃ y : Kin wr, w'' = y.wd) := Lib.hid (fun x => Kin.calls (refMatch_is hm3 (by omega) (by omega) x.wd))
            clear hm3
            go_wp2
            refine wp_region_kin (by kernel_rfl) (by kernel_rfl) ?_
            repeat (go_big_quiet_step (first | (go_at_call 28; with_reducible exact M1.out _) | (go_at_call 29; with_reducible exact CK.out _) | (go_at_call 28; with_reducible exact M2.out _) | (go_at_call 28; with_reducible exact M3.out _)))
            refine wpQuiet_nil ?_
            intro _ hx
            obtain ⟨x, rfl⟩ := hx
            obtain ⟨wx, hwx⟩ : ∃ wx, x.wd = wx := ⟨_, rfl⟩
            have HX : Hid (Below w0.heap.size w0 wx) := Lib.hid (by rw [← hwx]; exact HB.out.trans (x.below.mono HB.out.size))
            have HM := Lib.hid (checkF_miss hkl (m := m.data.toList) (h := hs.data.toList) (p := pt.data.toList) (by rw [HR.out]; show (matchF rm.data.toList _ && (matchF rh.data.toList _ && matchF rp.data.toList _)) = false; rw [HM1.out, HM2.out, HM3.out]; rfl))
            rw [hwx]
            clear hwx k1 k2 k3 qk x
            go_wp2
            go_round
            case rel => exact ⟨k + 1, by omega, by go_num, Lib.hid (HM.out.symm.trans HC.out), HX⟩
            case measure => simp [intOf]; omega
          | true =>
            have HM3 := Lib.hid hm3
            have M3 : Hid (∀ x : Kin wr, Calls Try.prog 28 #[.string rp, .string pt] x.wd fun e w'' => e = .returned (.bool true) ∧ ∃ y : Kin wr, w'' = y.wd) := Lib.hid (fun x => Kin.calls (refMatch_is hm3 (by omega) (by omega) x.wd))
            clear hm3
            go_wp2
            refine wp_region_kin (by kernel_rfl) (by kernel_rfl) ?_
            repeat (go_big_quiet_step (first | (go_at_call 28; with_reducible exact M1.out _) | (go_at_call 29; with_reducible exact CK.out _) | (go_at_call 28; with_reducible exact M2.out _) | (go_at_call 28; with_reducible exact M3.out _)))
            refine wpQuiet_nil ?_
            intro _ hx
            obtain ⟨x, rfl⟩ := hx
            obtain ⟨wx, hwx⟩ : ∃ wx, x.wd = wx := ⟨_, rfl⟩
            have HX : Hid (Below w0.heap.size w0 wx) := Lib.hid (by rw [← hwx]; exact HB.out.trans (x.below.mono HB.out.size))
            have HG := Lib.hid (checkF_hit hkl (m := m.data.toList) (h := hs.data.toList) (p := pt.data.toList) (by rw [HR.out]; show (matchF rm.data.toList _ && (matchF rh.data.toList _ && matchF rp.data.toList _)) = true; rw [HM1.out, HM2.out, HM3.out]; rfl))
            have x0 := x.cell HC0.out
            rw [hwx] at x0 ⊢
            clear hwx k1 k2 k3 qk x
            go_wp2
            go_ret2
            exact ⟨by rw [← HC.out, HG.out, HR.out]; rfl, HB0.out.trans (HX.out.mono HB0.out.size)⟩
    · have HE := Lib.hid (checkF_end (l := l) (m := m.data.toList) (h := hs.data.toList) (p := pt.data.toList) (k := k) (by omega))
      go_wp2
      go_ret2
      exact ⟨by rw [← HC.out, HE.out]; rfl, HB0.out.trans (HB.out.mono HB0.out.size)⟩
end Go.Proofs.Ythdolhfaiofogaa
namespace Go.Proofs.Ythdolhfaiofogaa
open Go.RowKit GlobMath HeadMath NormMath HeadS NormS

def k1 : ByteArray := ⟨#[32, 100, 101, 110, 121, 32, 32, 42, 32, 42, 32, 47, 112, 114, 105, 118, 97, 116, 101, 47, 42, 42, 32]⟩
def k2 : ByteArray := ⟨#[100, 101, 110, 121, 32, 42, 32, 42]⟩
def kGet : ByteArray := ⟨#[71, 69, 84]⟩
def kAt : ByteArray := ⟨#[47, 112, 114, 105, 118, 97, 116, 101, 47, 97, 63, 120]⟩
def kStar : ByteArray := ⟨#[42]⟩
def kPat : ByteArray := ⟨#[47, 112, 114, 105, 118, 97, 116, 101, 47, 42, 42]⟩
def kText : ByteArray := ⟨#[100, 101, 110, 121, 32, 42, 32, 42, 32, 47, 112, 114, 105, 118, 97, 116, 101, 47, 42, 42]⟩
theorem known_1 : ruleL (wordsL k1) = .tuple #[ruleA false kStar kStar kPat, .int .i64 0] := by kernel_rfl
theorem known_2 : ruleL (wordsL k2) = noRule := by kernel_rfl
theorem known_3 : checkV [⟨false, kStar, kStar, kPat⟩] kGet [] kAt = .tuple #[.bool false, .int .i64 0] := by kernel_rfl
theorem known_4 : checkV [] kGet [] kAt = .tuple #[.bool true, .int .i64 (-1)] := by kernel_rfl
theorem known_5 : ruleT false kStar kStar kPat = kText.data.toList := by kernel_rfl
theorem rules_one (w : World) (r : RuleR) : RulesAt (w.alloc (.cells #[.bool r.allow, .string r.method, .string r.host, .string r.path] 23)) (some ⟨w.heap.size, 0, none⟩) [r] := by
  intro k hk
  obtain rfl : k = 0 := by simpa using hk
  refine ⟨_, 0, rfl, ?_⟩
  simp [go_sem]
theorem rules_none (w : World) : RulesAt w none [] := by intro k hk; cases hk
theorem light_one : LightRs [⟨false, kStar, kStar, kPat⟩] := by
  refine ⟨by decide, fun j hj => ?_⟩
  obtain rfl : j = 0 := by simpa using hj
  exact (by decide : kStar.size ≤ 1000000 ∧ kStar.size ≤ 1000000 ∧ kPat.size ≤ 1000000)
def Yes (w : World) (e : Ending) (w' : World) : Prop := e = .returned (.bool true) ∧ Below w.heap.size w w'
theorem fields_none (B : Nat) (w : World) : FieldsIn B w none [] := by intro j hj; cases hj
set_option maxRecDepth 100000 in
set_option maxHeartbeats 16000000 in
theorem known_any (w : World) : Calls Try.prog 6 #[] w (Yes w) := by
  have K1 := fun w => rule_any k1 w (by decide)
  have K2 := fun w => rule_any k2 w (by decide)
  unfold RulePost at K1 K2
  simp only [known_1, known_2] at K1 K2
  unfold noRule at K2
  unfold ruleA at K1 K2
  unfold Yes
  go_enter Try.func6, Try.ntmps6
  go_wp2_with fail
  refine (K1 w).mono ?_
  rintro e w1 ⟨rfl, hb1⟩
  replace hb1 := hb1.below0
  obtain ⟨v1, hv1⟩ : ∃ v1, w1.alloc (.cells #[.bool false, .string kStar, .string kStar, .string kPat] 23) = v1 := ⟨_, rfl⟩
  have hc : v1.cell? ⟨w1.heap.size, 0, none⟩ = some (.bool false) ∧ v1.cell? ⟨w1.heap.size, 1, none⟩ = some (.string kStar) ∧ v1.cell? ⟨w1.heap.size, 2, none⟩ = some (.string kStar) ∧ v1.cell? ⟨w1.heap.size, 3, none⟩ = some (.string kPat) := by rw [← hv1]; exact copy_cells
  have hz1 : v1.heap.size = w1.heap.size + 1 := by rw [← hv1]; simp
  have hbv : Below w.heap.size w v1 := by rw [← hv1]; exact hb1.alloc hb1.size _
  have HV1 := Lib.hid hv1
  clear hv1
  go_wp2_with fail
  change Calls _ _ _ (w1.alloc (.cells #[.bool false, .string kStar, .string kStar, .string kPat] 23)) _
  rw [HV1.out]
  refine (K2 v1).mono ?_
  rintro e w2 ⟨rfl, hb2⟩
  replace hb2 := hb2.below0
  have hlt : w1.heap.size < w2.heap.size := by have := hb2.size; omega
  have hcw : ∀ {j : Nat} {u : Value}, v1.cell? ⟨w1.heap.size, j, none⟩ = some u → w2.cell? ⟨w1.heap.size, j, none⟩ = some u := fun {j u} h => (hb2.cell (p := ⟨w1.heap.size, j, none⟩) (by show w1.heap.size < _; omega)).trans h
  obtain ⟨c0, c1, c2, c3⟩ := hc
  replace c0 := hcw c0
  replace c1 := hcw c1
  replace c2 := hcw c2
  replace c3 := hcw c3
  have hn1 : ¬ w1.heap.size = w2.heap.size := by omega
  have hn2 : ¬ w1.heap.size = w2.heap.size + 1 := by omega
  clear hcw K1 K2
  have hb3 : Below w.heap.size w w2 := hbv.trans (hb2.mono hbv.size)
  clear hbv hb2 hb1
  obtain ⟨v2, hv2⟩ : ∃ v2, (w2.alloc (.cells #[.bool false, .string ⟨#[]⟩, .string ⟨#[]⟩, .string ⟨#[]⟩] 23)).alloc (.cells #[.string kGet, .string kAt, .slice none 0 0, .slice none 0 0] 38) = v2 := ⟨_, rfl⟩
  have hz2 : v2.heap.size = w2.heap.size + 2 := by rw [← hv2]; simp
  have hbv2 : Below w.heap.size w v2 := by rw [← hv2]; exact (hb3.alloc hb3.size _).alloc (by simp; have := hb3.size; omega) _
  obtain ⟨v3, hv3⟩ : ∃ v3, v2.alloc (.cells #[.bool false, .string kStar, .string kStar, .string kPat] 23) = v3 := ⟨_, rfl⟩
  have hat : RulesAt v3 (some ⟨w2.heap.size + 2, 0, none⟩) [⟨false, kStar, kStar, kPat⟩] := by
    rw [← hv3, ← hz2]
    exact rules_one v2 ⟨false, kStar, kStar, kPat⟩
  have hz3 : v3.heap.size = w2.heap.size + 3 := by rw [← hv3]; simp; omega
  have hbv3 : Below w.heap.size w v3 := by rw [← hv3]; exact hbv2.alloc hbv2.size _
  have f1 : v3.cell? ⟨w2.heap.size + 1, 0, none⟩ = some (.string kGet) ∧ v3.cell? ⟨w2.heap.size + 1, 1, none⟩ = some (.string kAt) ∧ v3.cell? ⟨w2.heap.size + 1, 2, none⟩ = some (.slice none 0 0) ∧ v3.cell? ⟨w2.heap.size + 1, 3, none⟩ = some (.slice none 0 0) := by
    rw [← hv3, ← hv2]
    refine ⟨?_, ?_, ?_, ?_⟩ <;> simp [go_sem]
  have hb23 : Below w2.heap.size w2 v3 := by rw [← hv3, ← hv2]; exact ((((Spares.refl nowhere w2).alloc _).alloc _).alloc _).below0
  have HV2 := Lib.hid hv2
  have HV3 := Lib.hid hv3
  clear hv2 hv3
  go_wp2_with fail
  change Calls _ _ #[.slice (some ⟨w2.heap.size + 2, 0, none⟩) 1 1, reqV kGet kAt (.slice none 0 0) (.slice none 0 0)] (((w2.alloc (.cells #[.bool false, .string ⟨#[]⟩, .string ⟨#[]⟩, .string ⟨#[]⟩] 23)).alloc (.cells #[.string kGet, .string kAt, .slice none 0 0, .slice none 0 0] 38)).alloc (.cells #[.bool false, .string kStar, .string kStar, .string kPat] 23)) _
  rw [HV2.out, HV3.out]
  refine (check_any (some ⟨w2.heap.size + 2, 0, none⟩) 1 [⟨false, kStar, kStar, kPat⟩] kGet kAt none 0 [] none 0 0 v3 hat light_one (by decide) (by decide) (fields_none _ _) ⟨by decide, fun j hj => by cases hj⟩).mono ?_
  rw [known_3]
  rintro e w3 ⟨rfl, hb4⟩
  obtain ⟨g0, g1, g2, g3⟩ := f1
  have hxw : ∀ {p : Addr} {u : Value}, p.block < v3.heap.size → v3.cell? p = some u → w3.cell? p = some u := fun {p u} hp h => (hb4.cell (p := p) hp).trans h
  replace g0 := hxw (by show w2.heap.size + 1 < _; omega) g0
  replace g1 := hxw (by show w2.heap.size + 1 < _; omega) g1
  replace g2 := hxw (by show w2.heap.size + 1 < _; omega) g2
  replace g3 := hxw (by show w2.heap.size + 1 < _; omega) g3
  have hb5 : Below w.heap.size w w3 := hbv3.trans (hb4.mono hbv3.size)
  have d0 : w3.cell? ⟨w1.heap.size, 0, none⟩ = some (.bool false) ∧ w3.cell? ⟨w1.heap.size, 1, none⟩ = some (.string kStar) ∧ w3.cell? ⟨w1.heap.size, 2, none⟩ = some (.string kStar) ∧ w3.cell? ⟨w1.heap.size, 3, none⟩ = some (.string kPat) := by
    have hy : ∀ {j : Nat} {u : Value}, w2.cell? ⟨w1.heap.size, j, none⟩ = some u → w3.cell? ⟨w1.heap.size, j, none⟩ = some u := fun {j u} h => hxw (by show w1.heap.size < _; omega) ((hb23.cell (p := ⟨w1.heap.size, j, none⟩) (by show w1.heap.size < _; omega)).trans h)
    exact ⟨hy c0, hy c1, hy c2, hy c3⟩
  obtain ⟨d0, d1, d2, d3⟩ := d0
  clear hxw c0 c1 c2 c3 hb4 hbv3 hat hb23
  go_wp2_with fail
  refine (check_any none 0 [] kGet kAt none 0 [] none 0 0 w3 (rules_none _) ⟨by decide, fun j hj => by cases hj⟩ (by decide) (by decide) (fields_none _ _) ⟨by decide, fun j hj => by cases hj⟩).mono ?_
  rw [known_4]
  rintro e w4 ⟨rfl, hb6⟩
  have hxw : ∀ {p : Addr} {u : Value}, p.block < w3.heap.size → w3.cell? p = some u → w4.cell? p = some u := fun {p u} hp h => (hb6.cell (p := p) hp).trans h
  have hlt3 : w1.heap.size < w3.heap.size := cell_in d0
  replace d0 := hxw hlt3 d0
  replace d1 := hxw hlt3 d1
  replace d2 := hxw hlt3 d2
  replace d3 := hxw hlt3 d3
  replace hb5 := hb5.trans (hb6.mono hb5.size)
  clear hxw g0 g1 g2 g3 hb6
  have cT := ruleText_any false kStar kStar kPat w4 (by decide) (by decide) (by decide)
  unfold TextPost at cT
  rw [known_5] at cT
  unfold ruleA at cT
  go_wp2_with fail
  refine cT.mono ?_
  rintro e w5 ⟨rfl, hb7⟩
  have hb8 := hb5.trans (hb7.mono hb5.size)
  have ht : ((⟨kText.data.toList.toArray⟩ : ByteArray).toList == [100, 101, 110, 121, 32, 42, 32, 42, 32, 47, 112, 114, 105, 118, 97, 116, 101, 47, 42, 42]) = true := by rw [Lib.toList_data]; rfl
  clear cT d0 d1 d2 d3
  go_wp2
  go_ret
  exact ⟨rfl, hb8⟩
end Go.Proofs.Ythdolhfaiofogaa
namespace Go.Proofs.Ythdolhfaiofogaa
open Go.RowKit GlobMath HeadMath NormMath HeadS NormS

def fewF (fs : List (ByteArray × ByteArray)) : Prop := fs.length ≤ 15 ∧ ∀ j (h : j < fs.length), (fs[j]).1.size ≤ 300 ∧ (fs[j]).2.size ≤ 300
theorem fewF.few {fs : List (ByteArray × ByteArray)} (h : fewF fs) : FewF fs := ⟨by have := h.1; omega, fun j hj => by have := h.2 j hj; omega⟩
def LitQ (m t : ByteArray) (fs : List (ByteArray × ByteArray)) (w : World) (e : Ending) (w' : World) : Prop :=
  ∃ b, e = .returned (.bool b) ∧ Below w.heap.size w w' ∧ (b = true → m.size ≤ 100 ∧ t.size ≤ 300 ∧ fewF fs)
set_option maxRecDepth 100000 in
set_option maxHeartbeats 4000000 in
theorem lightQ_any (m t : ByteArray) (fa : Option Addr) (fc : Nat) (fs : List (ByteArray × ByteArray)) (ba : Option Addr) (bn bc : Nat) (w : World)
    (hin : FieldsIn w.heap.size w fa fs) (hl : fs.length < 9223372036854775808) (hsz : ∀ j (h : j < fs.length), (fs[j]).1.size ≤ 9223372036854775807 ∧ (fs[j]).2.size ≤ 9223372036854775807) (hbn : bn < 9223372036854775808) (hm : m.size ≤ 9223372036854775807) (ht : t.size ≤ 9223372036854775807) :
    Calls Try.prog 13 #[reqV m t (.slice fa fs.length fc) (.slice ba bn bc)] w (LitQ m t fs w) := by
  obtain ⟨w0, hw0⟩ : ∃ w0, w.alloc (.cells #[.string m, .string t, .slice fa fs.length fc, .slice ba bn bc] 38) = w0 := ⟨_, rfl⟩
  have hb0 : Below w.heap.size w w0 := by rw [← hw0]; exact ((Spares.refl nowhere w).alloc _).below0
  have hz0 : w0.heap.size = w.heap.size + 1 := by rw [← hw0]; simp
  have HIN : Hid (FieldsIn w0.heap.size w0 fa fs) := Lib.hid (by
    intro j hj
    obtain ⟨b, off, h1, h2, h3, h4⟩ := fieldsIn_below' hin hb0 j hj
    exact ⟨b, off, h1, by omega, h3, h4⟩)
  have HW0 := Lib.hid hw0
  have HB0 := Lib.hid hb0
  have HSZ := Lib.hid hsz
  have HL := Lib.hid hl
  clear hin hw0 hb0 hsz hz0 hl
  unfold reqV
  have hno : ∀ w', Below w.heap.size w w' → LitQ m t fs w (.returned (.bool false)) w' := fun _ h => ⟨false, rfl, h, fun h => by cases h⟩
  have HNO := Lib.hid hno
  clear hno
  by_cases h1 : m.size ≤ 100
  · by_cases h2 : t.size ≤ 300
    · have H12 := Lib.hid (And.intro h1 h2)
      go_enter Try.func13, Try.ntmps13
      go_wp2_with fail
      change Calls _ _ _ (w.alloc (.cells #[.string m, .string t, .slice fa fs.length fc, .slice ba bn bc] 38)) _
      rw [HW0.out]
      refine (HeadS.light_any fs fa fc fs.length 15 w0 HIN.out rfl HL.out (by decide) HSZ.out).mono ?_
      rintro e w1 ⟨b, rfl, rfl, hb⟩
      obtain ⟨b2, hb2⟩ : ∃ b2, b = b2 := ⟨_, rfl⟩
      have HFF : Hid (b2 = true → fewF fs) := Lib.hid (fun h => hb (hb2.trans h))
      have HB2 := Lib.hid hb2
      clear hb2
      clear hb
      have q3 : w1.cell? ⟨w.heap.size, 3, none⟩ = some (.slice ba bn bc) := by rw [← HW0.out]; simp [go_sem]
      cases b with
      | false =>
        clear q3
        go_wp2
        go_ret
        exact HNO.out _ HB0.out
      | true =>
        go_wp2
        go_ret
        exact ⟨_, rfl, HB0.out, fun _ => ⟨H12.out.1, H12.out.2, HFF.out HB2.out.symm⟩⟩
    · go_enter Try.func13, Try.ntmps13
      go_wp2
      go_ret
      exact HNO.out _ (by have := HB0.out; rw [← HW0.out] at this; exact this)
  · go_enter Try.func13, Try.ntmps13
    go_wp2
    go_ret
    exact HNO.out _ (by have := HB0.out; rw [← HW0.out] at this; exact this)
end Go.Proofs.Ythdolhfaiofogaa
namespace Go.Proofs.Ythdolhfaiofogaa
open Go.RowKit GlobMath HeadMath NormMath HeadS NormS

/-- What Check answers is always a bool and a number. -/
theorem checkF_tuple (m h p : List UInt8) : ∀ (l : List RuleR) (i : Nat), i + l.length < 9223372036854775808 → ∃ (b : Bool) (n : Int), checkF m h p l i = .tuple #[.bool b, .int .i64 n] ∧ (n = -1 ∨ (i : Int) ≤ n ∧ n < i + l.length)
  | [], i, _ => ⟨true, -1, rfl, .inl rfl⟩
  | r :: l, i, hi => by
    unfold checkF
    simp only [List.length_cons] at hi ⊢
    split
    · exact ⟨_, _, rfl, .inr ⟨Int.le_refl _, by omega⟩⟩
    · obtain ⟨b, n, e, h⟩ := checkF_tuple m h p l (i + 1) (by omega)
      exact ⟨b, n, e, by rcases h with h | h; exact .inl h; exact .inr ⟨by omega, by omega⟩⟩
theorem lightF_rs {l : List RuleR} (h : lightF l = true) : l.length ≤ 20 ∧ ∀ j (h : j < l.length), l[j].method.size ≤ 100 ∧ l[j].host.size ≤ 100 ∧ l[j].path.size ≤ 100 := by
  unfold lightF at h
  rw [Bool.and_eq_true] at h
  refine ⟨by simpa using h.1, fun j hj => ?_⟩
  have := List.all_eq_true.1 h.2 l[j] (List.getElem_mem hj)
  unfold lightR at this
  rw [Bool.and_eq_true, Bool.and_eq_true] at this
  exact ⟨of_decide_eq_true this.1, of_decide_eq_true this.2.1, of_decide_eq_true this.2.2⟩
theorem lightF_LightRs {l : List RuleR} (h : lightF l = true) : LightRs l := ⟨by have := (lightF_rs h).1; omega, fun j hj => by have := (lightF_rs h).2 j hj; omega⟩

set_option maxRecDepth 100000 in
set_option maxHeartbeats 8000000 in
theorem checks_any (a : Option Addr) (c : Nat) (l : List RuleR) (m t : ByteArray) (fa : Option Addr) (fc : Nat) (fs : List (ByteArray × ByteArray)) (ba : Option Addr) (bn bc : Nat) (w : World)
    (hat : RulesAt w a l) (hin : FieldsIn w.heap.size w fa fs) (hl : fs.length < 9223372036854775808) (hsz : ∀ j (h : j < fs.length), (fs[j]).1.size ≤ 9223372036854775807 ∧ (fs[j]).2.size ≤ 9223372036854775807) (hbn : bn < 9223372036854775808) (hm : m.size ≤ 9223372036854775807) (ht : t.size ≤ 9223372036854775807) :
    Calls Try.prog 4 #[.slice a l.length c, reqV m t (.slice fa fs.length fc) (.slice ba bn bc)] w (Yes w) := by
  obtain ⟨w0, hw0⟩ : ∃ w0, w.alloc (.cells #[.string m, .string t, .slice fa fs.length fc, .slice ba bn bc] 38) = w0 := ⟨_, rfl⟩
  have hb0 : Below w.heap.size w w0 := by rw [← hw0]; exact ((Spares.refl nowhere w).alloc _).below0
  have hz0 : w0.heap.size = w.heap.size + 1 := by rw [← hw0]; simp
  have q : w0.cell? ⟨w.heap.size, 0, none⟩ = some (.string m) ∧ w0.cell? ⟨w.heap.size, 1, none⟩ = some (.string t) ∧ w0.cell? ⟨w.heap.size, 2, none⟩ = some (.slice fa fs.length fc) ∧ w0.cell? ⟨w.heap.size, 3, none⟩ = some (.slice ba bn bc) := by
    rw [← hw0]; refine ⟨?_, ?_, ?_, ?_⟩ <;> simp [go_sem]
  have hw : Hid (∀ x, Below w0.heap.size w0 x → (RulesAt x a l ∧ FieldsIn x.heap.size x fa fs ∧ Below w.heap.size w x) ∧ x.cell? ⟨w.heap.size, 0, none⟩ = some (.string m) ∧ x.cell? ⟨w.heap.size, 1, none⟩ = some (.string t) ∧ x.cell? ⟨w.heap.size, 2, none⟩ = some (.slice fa fs.length fc) ∧ x.cell? ⟨w.heap.size, 3, none⟩ = some (.slice ba bn bc)) := Lib.hid (fun x hx => by
    have hbx := hb0.trans (hx.mono hb0.size)
    refine ⟨⟨hat.below hbx rfl, ?_, hbx⟩, ?_⟩
    · intro j hj
      obtain ⟨b, off, h1, h2, h3, h4⟩ := fieldsIn_below' hin hbx j hj
      exact ⟨b, off, h1, by have := hbx.size; omega, h3, h4⟩
    · have hy : ∀ {j : Nat} {u : Value}, w0.cell? ⟨w.heap.size, j, none⟩ = some u → x.cell? ⟨w.heap.size, j, none⟩ = some u := fun {j u} h => (hx.cell (p := ⟨w.heap.size, j, none⟩) (by show w.heap.size < _; omega)).trans h
      exact ⟨hy q.1, hy q.2.1, hy q.2.2.1, hy q.2.2.2⟩)
  have HW0 := Lib.hid hw0
  have HSZ := Lib.hid hsz
  have HL := Lib.hid hl
  have HM := Lib.hid hm
  have HT := Lib.hid ht
  have HBN := Lib.hid hbn
  clear hat hin hw0 hb0 hsz hl hm ht hbn q hz0
  unfold reqV Yes
  go_enter Try.func4, Try.ntmps4
  go_wp2_with fail
  change Calls _ _ _ (w.alloc (.cells #[.string m, .string t, .slice fa fs.length fc, .slice ba bn bc] 38)) _
  rw [HW0.out]
  refine (known_any w0).mono ?_
  rintro e w1 ⟨rfl, hb1⟩
  obtain ⟨⟨hr1, hf1, hx1⟩, a0, a1, a2, a3⟩ := hw.out w1 hb1
  go_wp2_with fail
  refine (light_any a c l w1 hr1).mono ?_
  rintro e w1' ⟨rfl, rfl⟩
  cases hlf : lightF l with
  | false =>
    clear hr1 hf1
    go_wp2
    go_ret
    exact ⟨rfl, hx1⟩
  | true =>
    have HRS := Lib.hid (lightF_LightRs hlf)
    clear hlf
    go_wp2_with fail
    refine (lightQ_any m t fa fc fs ba bn bc w1' hf1 HL.out HSZ.out HBN.out HM.out HT.out).mono ?_
    rintro e w2 ⟨b, rfl, hb2, hq⟩
    replace hb2 := hb1.trans (hb2.mono hb1.size)
    clear hr1 hf1 a0 a1 a2 a3
    obtain ⟨⟨hr2, hf2, hx2⟩, a0, a1, a2, a3⟩ := hw.out w2 hb2
    cases b with
    | false =>
      clear hr2 hf2 hq
      go_wp2
      go_ret
      exact ⟨rfl, hx2⟩
    | true =>
      obtain ⟨hm1, ht1, hff⟩ := hq rfl
      have HFF := Lib.hid hff.few
      clear hq hff
      obtain ⟨y, n, hyn, _⟩ := checkF_tuple m.data.toList (hostS fs).data.toList (pathOf t).data.toList l 0 (by have := HRS.out.1; omega)
      have HY : Hid (checkV l m fs t = .tuple #[.bool y, .int .i64 n]) := Lib.hid hyn
      clear hyn
      go_wp2_with fail
      refine (check_any a c l m t fa fc fs ba bn bc w2 hr2 HRS.out (by omega) (by omega) hf2 HFF.out).mono ?_
      rw [HY.out]
      rintro e w3 ⟨rfl, hb3⟩
      replace hb3 := hb2.trans (hb3.mono hb2.size)
      clear hr2 hf2 a0 a1 a2 a3 hb2
      obtain ⟨⟨hr3, hf3, hx3⟩, a0, a1, a2, a3⟩ := hw.out w3 hb3
      go_wp2_with fail
      refine (refCheck_any a c l m t fa fc fs ba bn bc w3 hr3 HRS.out (by omega) (by omega) hf3 HFF.out).mono ?_
      rw [HY.out]
      rintro e w4 ⟨rfl, hb4⟩
      replace hb4 := hb3.trans (hb4.mono hb3.size)
      have hx4 := (hw.out w4 hb4).1.2.2
      clear hr3 hf3 a0 a1 a2 a3 hb3 hb4
      go_wp2
      go_ret
      exact ⟨rfl, hx4⟩
end Go.Proofs.Ythdolhfaiofogaa
namespace Go.Proofs.Ythdolhfaiofogaa
open Go.RowKit GlobMath

def textB (a : Bool) (m h p : ByteArray) : ByteArray := ⟨(ruleT a m h p).toArray⟩
theorem words_text {a : Bool} {m h p : ByteArray} (hm : plainL m.data.toList ∧ m.data.toList ≠ []) (hh : plainL h.data.toList ∧ h.data.toList ≠ []) (hp : plainL p.data.toList ∧ p.data.toList ≠ []) : wordsL (textB a m h p) = [firstB a, m, h, p] := by
  apply map_inj
  rw [words_list]
  show wl (ruleT a m h p) [] = _
  unfold ruleT
  have h32 : blankR (32 : UInt8).toNat = true := rfl
  have hf : plainL (firstB a).data.toList ∧ (firstB a).data.toList ≠ [] := by
    cases a <;> refine ⟨?_, by decide⟩ <;> (unfold plainL firstB; decide)
  simp only [List.singleton_append]
  rw [wl_cons hf.1 hf.2 h32, wl_cons hm.1 hm.2 h32, wl_cons hh.1 hh.2 h32, wl_one hp.1 hp.2]
  rfl
theorem first_text (a : Bool) : firstF (firstB a) = true ∧ ((firstB a).data.toList == allowB) = a := by cases a <;> decide
theorem ruleL_cases (s : ByteArray) : ruleL (wordsL s) = noRule ∨ ∃ (a : Bool) (m h p : ByteArray), ruleL (wordsL s) = .tuple #[ruleA a m h p, .int .i64 0] ∧ ruleL (wordsL (textB a m h p)) = .tuple #[ruleA a m h p, .int .i64 0] ∧ m.size ≤ s.size ∧ h.size ≤ s.size ∧ p.size ≤ s.size := by
  have hg : ∀ w ∈ wordsL s, (plainL w.data.toList ∧ w.data.toList ≠ []) ∧ w.size ≤ s.size := fun w hw => ⟨words_good hw, size_cut hw⟩
  match hl : wordsL s with
  | [] => exact .inl rfl
  | [_] => exact .inl rfl
  | [_, _] => exact .inl rfl
  | [_, _, _] => exact .inl rfl
  | [a, m, h, p] =>
    rw [hl] at hg
    rw [ruleL_four]
    split
    · rename_i hc
      have e := words_text (a := a.data.toList == allowB) (hg m (by simp)).1 (hg h (by simp)).1 (hg p (by simp)).1
      refine .inr ⟨a.data.toList == allowB, m, h, p, rfl, ?_, (hg m (by simp)).2, (hg h (by simp)).2, (hg p (by simp)).2⟩
      rw [e]
      rw [Bool.and_eq_true, Bool.and_eq_true, Bool.and_eq_true] at hc
      rw [ruleL_good (first_text _).1 hc.2.1 hc.2.2.1 hc.2.2.2, (first_text _).2]
    · exact .inl rfl
  | _ :: _ :: _ :: _ :: _ :: _ => exact .inl rfl

set_option maxHeartbeats 4000000 in
theorem back_any (a : Bool) (m h p : ByteArray) (w : World) (hb : ruleL (wordsL (textB a m h p)) = .tuple #[ruleA a m h p, .int .i64 0]) (hm : m.size ≤ 100000) (hh : h.size ≤ 100000) (hp : p.size ≤ 100000) :
    Calls Try.prog 12 #[ruleA a m h p] w (Yes w) := by
  obtain ⟨w0, hw0⟩ : ∃ w0, w.alloc (.cells #[.bool a, .string m, .string h, .string p] 23) = w0 := ⟨_, rfl⟩
  have hb0 : Below w.heap.size w w0 := by rw [← hw0]; exact ((Spares.refl nowhere w).alloc _).below0
  have hz0 : w0.heap.size = w.heap.size + 1 := by rw [← hw0]; simp
  have hc : w0.cell? ⟨w.heap.size, 0, none⟩ = some (.bool a) ∧ w0.cell? ⟨w.heap.size, 1, none⟩ = some (.string m) ∧ w0.cell? ⟨w.heap.size, 2, none⟩ = some (.string h) ∧ w0.cell? ⟨w.heap.size, 3, none⟩ = some (.string p) := by rw [← hw0]; exact copy_cells
  have cT := fun w => ruleText_any a m h p w (by omega) (by omega) (by omega)
  have hts : (textB a m h p).size ≤ 1000000 := by
    have e : ∀ x : ByteArray, x.data.toList.length = x.size := fun x => by simp
    have hf : (firstB a).size ≤ 5 := by cases a <;> decide
    show (ruleT a m h p).toArray.size ≤ _
    unfold ruleT
    simp only [List.size_toArray, List.length_append, List.length_cons, List.length_nil, e]
    omega
  have cP := fun w => rule_any (textB a m h p) w hts
  unfold RulePost at cP
  rw [hb] at cP
  unfold TextPost at cT
  have HW0 := Lib.hid hw0
  have HB0 := Lib.hid hb0
  clear hw0 hb0 hb hts hm hh hp
  unfold ruleA at cP cT ⊢
  unfold Yes
  go_enter Try.func12, Try.ntmps12
  go_wp2_with fail
  change Calls _ _ _ (w.alloc (.cells #[.bool a, .string m, .string h, .string p] 23)) _
  rw [HW0.out]
  refine (cT w0).mono ?_
  rintro e w1 ⟨rfl, hb1⟩
  clear cT
  go_wp2_with fail
  refine (cP w1).mono ?_
  rintro e w2 ⟨rfl, hb2⟩
  replace hb2 := hb1.trans (hb2.below0.mono hb1.size)
  have hy : ∀ {j : Nat} {u : Value}, w0.cell? ⟨w.heap.size, j, none⟩ = some u → w2.cell? ⟨w.heap.size, j, none⟩ = some u := fun {j u} h => (hb2.cell (p := ⟨w.heap.size, j, none⟩) (by show w.heap.size < _; omega)).trans h
  obtain ⟨c0, c1, c2, c3⟩ := hc
  replace c0 := hy c0
  replace c1 := hy c1
  replace c2 := hy c2
  replace c3 := hy c3
  have hlt : w.heap.size < w2.heap.size := by have := hb2.size; omega
  have hx2 := HB0.out.trans (hb2.mono HB0.out.size)
  clear hy cP hb1 hb2
  go_wp2
  go_ret
  exact ⟨rfl, hx2.alloc hx2.size _⟩
end Go.Proofs.Ythdolhfaiofogaa
namespace Go.Proofs.Ythdolhfaiofogaa
open Go.RowKit GlobMath

theorem four_kin {w : World} (x : Kin w) {g : Nat} {a b c d : Value} (h : w.cell? ⟨g, 0, none⟩ = some a ∧ w.cell? ⟨g, 1, none⟩ = some b ∧ w.cell? ⟨g, 2, none⟩ = some c ∧ w.cell? ⟨g, 3, none⟩ = some d) :
    x.wd.cell? ⟨g, 0, none⟩ = some a ∧ x.wd.cell? ⟨g, 1, none⟩ = some b ∧ x.wd.cell? ⟨g, 2, none⟩ = some c ∧ x.wd.cell? ⟨g, 3, none⟩ = some d := ⟨x.cell h.1, x.cell h.2.1, x.cell h.2.2.1, x.cell h.2.2.2⟩
set_option maxRecDepth 100000 in
set_option maxHeartbeats 8000000 in
theorem reads_any (s : ByteArray) (x : RuleR) (w : World) (hs : s.size ≤ 140737488351232) (z1 : x.method.size ≤ 9223372036854775807) (z2 : x.host.size ≤ 9223372036854775807) (z3 : x.path.size ≤ 9223372036854775807) :
    Calls Try.prog 3 #[.string s, ruleA x.allow x.method x.host x.path] w (Yes w) := by
  obtain ⟨w0, hw0⟩ : ∃ w0, w.alloc (.cells #[.bool x.allow, .string x.method, .string x.host, .string x.path] 23) = w0 := ⟨_, rfl⟩
  have hb0 : Below w.heap.size w w0 := by rw [← hw0]; exact ((Spares.refl nowhere w).alloc _).below0
  have hz0 : w0.heap.size = w.heap.size + 1 := by rw [← hw0]; simp
  have hc : w0.cell? ⟨w.heap.size, 0, none⟩ = some (.bool x.allow) ∧ w0.cell? ⟨w.heap.size, 1, none⟩ = some (.string x.method) ∧ w0.cell? ⟨w.heap.size, 2, none⟩ = some (.string x.host) ∧ w0.cell? ⟨w.heap.size, 3, none⟩ = some (.string x.path) := by rw [← hw0]; exact copy_cells
  have HW0 := Lib.hid hw0
  have HB0 := Lib.hid hb0
  have HC := Lib.hid hc
  have Z1 := Lib.hid z1
  have Z2 := Lib.hid z2
  have Z3 := Lib.hid z3
  clear hw0 hb0 hc z1 z2 z3
  unfold ruleA Yes
  go_enter Try.func3, Try.ntmps3
  go_wp2_with fail
  change Calls _ _ _ (w.alloc (.cells #[.bool x.allow, .string x.method, .string x.host, .string x.path] 23)) _
  rw [HW0.out]
  refine (known_any w0).mono ?_
  rintro e w1 ⟨rfl, hb1⟩
  have hlt1 : w.heap.size < w1.heap.size := by have := hb1.size; omega
  have hx1 := HB0.out.trans (hb1.mono HB0.out.size)
  have HB1 := Lib.hid hb1
  have HX1 := Lib.hid hx1
  have hc1 : w1.cell? ⟨w.heap.size, 0, none⟩ = some (.bool x.allow) ∧ w1.cell? ⟨w.heap.size, 1, none⟩ = some (.string x.method) ∧ w1.cell? ⟨w.heap.size, 2, none⟩ = some (.string x.host) ∧ w1.cell? ⟨w.heap.size, 3, none⟩ = some (.string x.path) := four_kin (w := w0) ⟨w1, hb1⟩ HC.out
  have HC1 := Lib.hid hc1
  obtain ⟨c0, c1, c2, c3⟩ := hc1
  clear hb1 hx1
  by_cases h500 : s.size ≤ 500
  · have hr1 := Lib.hid (rules_one w1 x)
    go_wp2_with fail
    change Calls _ _ _ (w1.alloc (.cells #[.bool x.allow, .string x.method, .string x.host, .string x.path] 23)) _
    obtain ⟨v1, hv1⟩ : ∃ v1, w1.alloc (.cells #[.bool x.allow, .string x.method, .string x.host, .string x.path] 23) = v1 := ⟨_, rfl⟩
    have hz1 : v1.heap.size = w1.heap.size + 1 := by rw [← hv1]; simp
    have HBV : Hid (Below w1.heap.size w1 v1) := Lib.hid (by rw [← hv1]; exact ((Spares.refl nowhere w1).alloc _).below0)
    rw [hv1] at hr1 ⊢
    clear hv1
    refine (light_any (some ⟨w1.heap.size, 0, none⟩) 1 [x] v1 hr1.out).mono ?_
    rintro e v1' ⟨rfl, rfl⟩
    cases hlf : lightF [x] with
    | false =>
      clear c0 c1 c2 c3
      go_wp2
      go_ret
      exact ⟨rfl, HX1.out.trans (HBV.out.mono HX1.out.size)⟩
    | true =>
      have hls : x.method.size ≤ 100 ∧ x.host.size ≤ 100 ∧ x.path.size ≤ 100 := (lightF_rs hlf).2 0 (by simp)
      have HLS := Lib.hid hls
      clear hlf hls hr1 c0 c1 c2 c3
      have cT := fun w => ruleText_any x.allow x.method x.host x.path w (by have := HLS.out; omega) (by have := HLS.out; omega) (by have := HLS.out; omega)
      have cR := fun w => refRuleText_any x.allow x.method x.host x.path w (by have := HLS.out; omega) (by have := HLS.out; omega) (by have := HLS.out; omega)
      have cP := fun w => rule_any s w (by omega)
      have cQ := fun w => refRule_any s w (by omega)
      unfold RulePost at cP cQ
      unfold TextPost at cT cR
      have HT := Lib.hid cT
      have HRT := Lib.hid cR
      clear cT cR
      rcases ruleL_cases s with hr | ⟨a, m, h, p, hr, hbk, r1, r2, r3⟩
      · rw [hr] at cP cQ
        unfold noRule at cP cQ
        unfold ruleA at cP cQ HT HRT
        go_wp2_with fail
        refine (cP v1').mono ?_
        rintro e w2 ⟨rfl, hb2⟩
        replace hb2 := HBV.out.trans (hb2.below0.mono HBV.out.size)
        clear cP
        go_wp2_with fail
        obtain ⟨v2, hv2⟩ : ∃ v2, w2.alloc (.cells #[.bool false, .string ⟨#[]⟩, .string ⟨#[]⟩, .string ⟨#[]⟩] 23) = v2 := ⟨_, rfl⟩
        have hz2 : v2.heap.size = w2.heap.size + 1 := by rw [← hv2]; simp
        have ha2 : v2.cell? ⟨w2.heap.size, 0, none⟩ = some (.bool false) ∧ v2.cell? ⟨w2.heap.size, 1, none⟩ = some (.string ⟨#[]⟩) ∧ v2.cell? ⟨w2.heap.size, 2, none⟩ = some (.string ⟨#[]⟩) ∧ v2.cell? ⟨w2.heap.size, 3, none⟩ = some (.string ⟨#[]⟩) := by rw [← hv2]; exact copy_cells
        have hbv2 : Below w1.heap.size w1 v2 := by rw [← hv2]; exact hb2.alloc hb2.size _
        change Calls _ _ _ (w2.alloc (.cells #[.bool false, .string ⟨#[]⟩, .string ⟨#[]⟩, .string ⟨#[]⟩] 23)) _
        rw [hv2]
        clear hv2
        refine (cQ v2).mono ?_
        rintro e w3 ⟨rfl, hb3⟩
        replace hb3 := hb3.below0
        clear cQ
        obtain ⟨v3, hv3⟩ : ∃ v3, w3.alloc (.cells #[.bool false, .string ⟨#[]⟩, .string ⟨#[]⟩, .string ⟨#[]⟩] 23) = v3 := ⟨_, rfl⟩
        have ha3 : v3.cell? ⟨w3.heap.size, 0, none⟩ = some (.bool false) ∧ v3.cell? ⟨w3.heap.size, 1, none⟩ = some (.string ⟨#[]⟩) ∧ v3.cell? ⟨w3.heap.size, 2, none⟩ = some (.string ⟨#[]⟩) ∧ v3.cell? ⟨w3.heap.size, 3, none⟩ = some (.string ⟨#[]⟩) := by rw [← hv3]; exact copy_cells
        have hbv3 : Below v2.heap.size v2 v3 := by rw [← hv3]; exact hb3.alloc hb3.size _
        have KA : Hid (∀ y : Kin v3, y.wd.cell? ⟨w2.heap.size, 0, none⟩ = some (.bool false) ∧ y.wd.cell? ⟨w2.heap.size, 1, none⟩ = some (.string ⟨#[]⟩) ∧ y.wd.cell? ⟨w2.heap.size, 2, none⟩ = some (.string ⟨#[]⟩) ∧ y.wd.cell? ⟨w2.heap.size, 3, none⟩ = some (.string ⟨#[]⟩)) := Lib.hid (fun y => four_kin y (four_kin (w := v2) ⟨v3, hbv3⟩ ha2))
        have KB : Hid (∀ y : Kin v3, y.wd.cell? ⟨w3.heap.size, 0, none⟩ = some (.bool false) ∧ y.wd.cell? ⟨w3.heap.size, 1, none⟩ = some (.string ⟨#[]⟩) ∧ y.wd.cell? ⟨w3.heap.size, 2, none⟩ = some (.string ⟨#[]⟩) ∧ y.wd.cell? ⟨w3.heap.size, 3, none⟩ = some (.string ⟨#[]⟩)) := Lib.hid (fun y => four_kin y ha3)
        have hx3 : Below w1.heap.size w1 v3 := hbv2.trans (hbv3.mono hbv2.size)
        have KC : Hid (∀ y : Kin v3, y.wd.cell? ⟨w.heap.size, 0, none⟩ = some (.bool x.allow) ∧ y.wd.cell? ⟨w.heap.size, 1, none⟩ = some (.string x.method) ∧ y.wd.cell? ⟨w.heap.size, 2, none⟩ = some (.string x.host) ∧ y.wd.cell? ⟨w.heap.size, 3, none⟩ = some (.string x.path)) := Lib.hid (fun y => four_kin y (four_kin (w := w1) ⟨v3, hx3⟩ HC1.out))
        have HX3 := Lib.hid (HX1.out.trans (hx3.mono HX1.out.size))
        have HV3 := Lib.hid hv3
        clear hv3 ha2 ha3 hbv2 hbv3 hx3 hb2 hb3
        go_wp2
        change Code.wp _ (Code.region _ _ _) _ _ (w3.alloc (.cells #[.bool false, .string ⟨#[]⟩, .string ⟨#[]⟩, .string ⟨#[]⟩] 23))
        rw [HV3.out]
        have CT : Hid (∀ y : Kin v3, Calls Try.prog 10 #[.agg #[.bool x.allow, .string x.method, .string x.host, .string x.path]] y.wd fun e w'' => e = .returned (.string (textB x.allow x.method x.host x.path)) ∧ ∃ z : Kin v3, w'' = z.wd) := Lib.hid (fun y => Kin.calls (HT.out y.wd))
        have CR : Hid (∀ y : Kin v3, Calls Try.prog 11 #[.agg #[.bool x.allow, .string x.method, .string x.host, .string x.path]] y.wd fun e w'' => e = .returned (.string (textB x.allow x.method x.host x.path)) ∧ ∃ z : Kin v3, w'' = z.wd) := Lib.hid (fun y => Kin.calls (HRT.out y.wd))
        have ka0 : ∀ y : Kin v3, y.wd.cell? ⟨w2.heap.size, 0, none⟩ = some (.bool false) := fun y => (KA.out y).1
        have ka1 : ∀ y : Kin v3, y.wd.cell? ⟨w2.heap.size, 1, none⟩ = some (.string ⟨#[]⟩) := fun y => (KA.out y).2.1
        have ka2 : ∀ y : Kin v3, y.wd.cell? ⟨w2.heap.size, 2, none⟩ = some (.string ⟨#[]⟩) := fun y => (KA.out y).2.2.1
        have ka3 : ∀ y : Kin v3, y.wd.cell? ⟨w2.heap.size, 3, none⟩ = some (.string ⟨#[]⟩) := fun y => (KA.out y).2.2.2
        have kb0 : ∀ y : Kin v3, y.wd.cell? ⟨w3.heap.size, 0, none⟩ = some (.bool false) := fun y => (KB.out y).1
        have kb1 : ∀ y : Kin v3, y.wd.cell? ⟨w3.heap.size, 1, none⟩ = some (.string ⟨#[]⟩) := fun y => (KB.out y).2.1
        have kb2 : ∀ y : Kin v3, y.wd.cell? ⟨w3.heap.size, 2, none⟩ = some (.string ⟨#[]⟩) := fun y => (KB.out y).2.2.1
        have kb3 : ∀ y : Kin v3, y.wd.cell? ⟨w3.heap.size, 3, none⟩ = some (.string ⟨#[]⟩) := fun y => (KB.out y).2.2.2
        have kc0 : ∀ y : Kin v3, y.wd.cell? ⟨w.heap.size, 0, none⟩ = some (.bool x.allow) := fun y => (KC.out y).1
        have kc1 : ∀ y : Kin v3, y.wd.cell? ⟨w.heap.size, 1, none⟩ = some (.string x.method) := fun y => (KC.out y).2.1
        have kc2 : ∀ y : Kin v3, y.wd.cell? ⟨w.heap.size, 2, none⟩ = some (.string x.host) := fun y => (KC.out y).2.2.1
        have kc3 : ∀ y : Kin v3, y.wd.cell? ⟨w.heap.size, 3, none⟩ = some (.string x.path) := fun y => (KC.out y).2.2.2
        have hself : ((textB x.allow x.method x.host x.path).toList == (textB x.allow x.method x.host x.path).toList) = true := beq_self_eq_true _
        refine wp_region_kin (by kernel_rfl) (by kernel_rfl) ?_
        repeat (go_big_quiet_step (first | (go_at_call 10; with_reducible exact CT.out _) | (go_at_call 11; with_reducible exact CR.out _)))
        refine wpQuiet_nil ?_
        intro _ hx
        obtain ⟨y, rfl⟩ := hx
        have HXY := Lib.hid (HX3.out.trans (y.below.mono HX3.out.size))
        clear ka0 ka1 ka2 ka3 kb0 kb1 kb2 kb3 kc0 kc1 kc2 kc3 hself
        go_wp2
        go_ret
        exact ⟨rfl, HXY.out⟩
      · rw [hr] at cP cQ
        replace hbk := fun w => back_any a m h p w hbk (by omega) (by omega) (by omega)
        unfold Yes at hbk
        unfold ruleA at cP cQ HT HRT hbk
        go_wp2_with fail
        refine (cP v1').mono ?_
        rintro e w2 ⟨rfl, hb2⟩
        replace hb2 := HBV.out.trans (hb2.below0.mono HBV.out.size)
        clear cP
        go_wp2_with fail
        obtain ⟨v2, hv2⟩ : ∃ v2, w2.alloc (.cells #[.bool a, .string m, .string h, .string p] 23) = v2 := ⟨_, rfl⟩
        have hz2 : v2.heap.size = w2.heap.size + 1 := by rw [← hv2]; simp
        have ha2 : v2.cell? ⟨w2.heap.size, 0, none⟩ = some (.bool a) ∧ v2.cell? ⟨w2.heap.size, 1, none⟩ = some (.string m) ∧ v2.cell? ⟨w2.heap.size, 2, none⟩ = some (.string h) ∧ v2.cell? ⟨w2.heap.size, 3, none⟩ = some (.string p) := by rw [← hv2]; exact copy_cells
        have hbv2 : Below w1.heap.size w1 v2 := by rw [← hv2]; exact hb2.alloc hb2.size _
        change Calls _ _ _ (w2.alloc (.cells #[.bool a, .string m, .string h, .string p] 23)) _
        rw [hv2]
        clear hv2
        refine (cQ v2).mono ?_
        rintro e w3 ⟨rfl, hb3⟩
        replace hb3 := hb3.below0
        clear cQ
        obtain ⟨v3, hv3⟩ : ∃ v3, w3.alloc (.cells #[.bool a, .string m, .string h, .string p] 23) = v3 := ⟨_, rfl⟩
        have ha3 : v3.cell? ⟨w3.heap.size, 0, none⟩ = some (.bool a) ∧ v3.cell? ⟨w3.heap.size, 1, none⟩ = some (.string m) ∧ v3.cell? ⟨w3.heap.size, 2, none⟩ = some (.string h) ∧ v3.cell? ⟨w3.heap.size, 3, none⟩ = some (.string p) := by rw [← hv3]; exact copy_cells
        have hbv3 : Below v2.heap.size v2 v3 := by rw [← hv3]; exact hb3.alloc hb3.size _
        have KA : Hid (∀ y : Kin v3, y.wd.cell? ⟨w2.heap.size, 0, none⟩ = some (.bool a) ∧ y.wd.cell? ⟨w2.heap.size, 1, none⟩ = some (.string m) ∧ y.wd.cell? ⟨w2.heap.size, 2, none⟩ = some (.string h) ∧ y.wd.cell? ⟨w2.heap.size, 3, none⟩ = some (.string p)) := Lib.hid (fun y => four_kin y (four_kin (w := v2) ⟨v3, hbv3⟩ ha2))
        have KB : Hid (∀ y : Kin v3, y.wd.cell? ⟨w3.heap.size, 0, none⟩ = some (.bool a) ∧ y.wd.cell? ⟨w3.heap.size, 1, none⟩ = some (.string m) ∧ y.wd.cell? ⟨w3.heap.size, 2, none⟩ = some (.string h) ∧ y.wd.cell? ⟨w3.heap.size, 3, none⟩ = some (.string p)) := Lib.hid (fun y => four_kin y ha3)
        have hx3 : Below w1.heap.size w1 v3 := hbv2.trans (hbv3.mono hbv2.size)
        have KC : Hid (∀ y : Kin v3, y.wd.cell? ⟨w.heap.size, 0, none⟩ = some (.bool x.allow) ∧ y.wd.cell? ⟨w.heap.size, 1, none⟩ = some (.string x.method) ∧ y.wd.cell? ⟨w.heap.size, 2, none⟩ = some (.string x.host) ∧ y.wd.cell? ⟨w.heap.size, 3, none⟩ = some (.string x.path)) := Lib.hid (fun y => four_kin y (four_kin (w := w1) ⟨v3, hx3⟩ HC1.out))
        have HX3 := Lib.hid (HX1.out.trans (hx3.mono HX1.out.size))
        have HV3 := Lib.hid hv3
        clear hv3 ha2 ha3 hbv2 hbv3 hx3 hb2 hb3
        go_wp2
        change Code.wp _ (Code.region _ _ _) _ _ (w3.alloc (.cells #[.bool a, .string m, .string h, .string p] 23))
        rw [HV3.out]
        have CT : Hid (∀ y : Kin v3, Calls Try.prog 10 #[.agg #[.bool x.allow, .string x.method, .string x.host, .string x.path]] y.wd fun e w'' => e = .returned (.string (textB x.allow x.method x.host x.path)) ∧ ∃ z : Kin v3, w'' = z.wd) := Lib.hid (fun y => Kin.calls (HT.out y.wd))
        have CR : Hid (∀ y : Kin v3, Calls Try.prog 11 #[.agg #[.bool x.allow, .string x.method, .string x.host, .string x.path]] y.wd fun e w'' => e = .returned (.string (textB x.allow x.method x.host x.path)) ∧ ∃ z : Kin v3, w'' = z.wd) := Lib.hid (fun y => Kin.calls (HRT.out y.wd))
        have CB : Hid (∀ y : Kin v3, Calls Try.prog 12 #[.agg #[.bool a, .string m, .string h, .string p]] y.wd fun e w'' => e = .returned (.bool true) ∧ ∃ z : Kin v3, w'' = z.wd) := Lib.hid (fun y => Kin.calls (hbk y.wd))
        have ka0 : ∀ y : Kin v3, y.wd.cell? ⟨w2.heap.size, 0, none⟩ = some (.bool a) := fun y => (KA.out y).1
        have ka1 : ∀ y : Kin v3, y.wd.cell? ⟨w2.heap.size, 1, none⟩ = some (.string m) := fun y => (KA.out y).2.1
        have ka2 : ∀ y : Kin v3, y.wd.cell? ⟨w2.heap.size, 2, none⟩ = some (.string h) := fun y => (KA.out y).2.2.1
        have ka3 : ∀ y : Kin v3, y.wd.cell? ⟨w2.heap.size, 3, none⟩ = some (.string p) := fun y => (KA.out y).2.2.2
        have kb0 : ∀ y : Kin v3, y.wd.cell? ⟨w3.heap.size, 0, none⟩ = some (.bool a) := fun y => (KB.out y).1
        have kb1 : ∀ y : Kin v3, y.wd.cell? ⟨w3.heap.size, 1, none⟩ = some (.string m) := fun y => (KB.out y).2.1
        have kb2 : ∀ y : Kin v3, y.wd.cell? ⟨w3.heap.size, 2, none⟩ = some (.string h) := fun y => (KB.out y).2.2.1
        have kb3 : ∀ y : Kin v3, y.wd.cell? ⟨w3.heap.size, 3, none⟩ = some (.string p) := fun y => (KB.out y).2.2.2
        have kc0 : ∀ y : Kin v3, y.wd.cell? ⟨w.heap.size, 0, none⟩ = some (.bool x.allow) := fun y => (KC.out y).1
        have kc1 : ∀ y : Kin v3, y.wd.cell? ⟨w.heap.size, 1, none⟩ = some (.string x.method) := fun y => (KC.out y).2.1
        have kc2 : ∀ y : Kin v3, y.wd.cell? ⟨w.heap.size, 2, none⟩ = some (.string x.host) := fun y => (KC.out y).2.2.1
        have kc3 : ∀ y : Kin v3, y.wd.cell? ⟨w.heap.size, 3, none⟩ = some (.string x.path) := fun y => (KC.out y).2.2.2
        have hself : ((textB x.allow x.method x.host x.path).toList == (textB x.allow x.method x.host x.path).toList) = true := beq_self_eq_true _
        clear hbk
        refine wp_region_kin (by kernel_rfl) (by kernel_rfl) ?_
        repeat (go_big_quiet_step (first | (go_at_call 10; with_reducible exact CT.out _) | (go_at_call 11; with_reducible exact CR.out _) | (go_at_call 12; with_reducible exact CB.out _)))
        refine wpQuiet_nil ?_
        intro _ hx
        obtain ⟨y, rfl⟩ := hx
        have HXY := Lib.hid (HX3.out.trans (y.below.mono HX3.out.size))
        clear ka0 ka1 ka2 ka3 kb0 kb1 kb2 kb3 kc0 kc1 kc2 kc3 hself
        go_wp2
        go_ret
        exact ⟨rfl, HXY.out⟩
  · clear c0 c1 c2 c3
    go_wp2
    go_ret
    exact ⟨rfl, HX1.out⟩
end Go.Proofs.Ythdolhfaiofogaa
namespace Go.Proofs.Ythdolhfaiofogaa
open Go.RowKit GlobMath

def ruleCells (l : List RuleR) : List Value := l.flatMap fun r => [.bool r.allow, .string r.method, .string r.host, .string r.path]
theorem ruleCells_len (l : List RuleR) : (ruleCells l).length = l.length * 4 := by
  induction l with
  | nil => rfl
  | cons r l ih => unfold ruleCells at ih ⊢; simp only [List.flatMap_cons, List.length_append, List.length_cons, List.length_nil, ih]; omega
theorem ruleCells_one {l : List RuleR} : ∀ u ∈ ruleCells l, u.oneCell' = true := by
  intro u hu
  obtain ⟨r, _, h⟩ := List.mem_flatMap.1 hu
  simp only [List.mem_cons, List.not_mem_nil, or_false] at h
  rcases h with rfl | rfl | rfl | rfl <;> rfl
theorem ruleCells_at : ∀ (l : List RuleR) (k : Nat) (h : k < l.length), (ruleCells l)[k * 4]? = some (.bool l[k].allow) ∧ (ruleCells l)[k * 4 + 1]? = some (.string l[k].method) ∧ (ruleCells l)[k * 4 + 2]? = some (.string l[k].host) ∧ (ruleCells l)[k * 4 + 3]? = some (.string l[k].path)
  | r :: l, 0, _ => ⟨rfl, rfl, rfl, rfl⟩
  | r :: l, k + 1, h => by
    have e : ∀ i, (ruleCells (r :: l))[(k + 1) * 4 + i]? = (ruleCells l)[k * 4 + i]? := by
      intro i
      rw [show (k + 1) * 4 + i = (k * 4 + i) + 1 + 1 + 1 + 1 by omega]
      rfl
    have := ruleCells_at l k (by simpa using h)
    have e0 := e 0
    rw [Nat.add_zero, Nat.add_zero] at e0
    rw [e0, e 1, e 2, e 3]
    exact this
theorem RulesAt.tail {w : World} {b off : Nat} {r : RuleR} {l : List RuleR} (h : RulesAt w (some ⟨b, off, none⟩) (r :: l)) : RulesAt w (some ⟨b, off + 4, none⟩) l := by
  intro k hk
  obtain ⟨b', off', e, h0, h1, h2, h3⟩ := h (k + 1) (by simpa using hk)
  injection e with e
  injection e with e1 e2
  subst e1; subst e2
  refine ⟨b, off + 4, rfl, ?_⟩
  rw [show off + (k + 1) * 4 = off + 4 + k * 4 by omega] at h0 h1 h2 h3
  exact ⟨h0, h1, h2, h3⟩
theorem rulesAt_cells {w : World} {b : Nat} : ∀ {l : List RuleR} {off : Nat}, RulesAt w (some ⟨b, off, none⟩) l → ∀ j u, (ruleCells l)[j]? = some u → w.cell? ⟨b, off + j, none⟩ = some u
  | [], _, _, j, u, hu => by simp [ruleCells] at hu
  | r :: l, off, h, j, u, hu => by
    obtain ⟨b', off', e, h0, h1, h2, h3⟩ := h 0 (by simp)
    injection e with e
    injection e with e1 e2
    subst e1; subst e2
    simp only [Nat.zero_mul, Nat.add_zero, List.getElem_cons_zero] at h0 h1 h2 h3
    match j, hu with
    | 0, hu => injection hu with hu; subst hu; exact h0
    | 1, hu => injection hu with hu; subst hu; exact h1
    | 2, hu => injection hu with hu; subst hu; exact h2
    | 3, hu => injection hu with hu; subst hu; exact h3
    | j + 4, hu =>
      have := rulesAt_cells h.tail j u hu
      rwa [show off + (j + 4) = off + 4 + j by omega]
theorem rulesAt_of {w : World} {b : Nat} {l : List RuleR} (h : ∀ j u, (ruleCells l)[j]? = some u → w.cell? ⟨b, j, none⟩ = some u) : RulesAt w (some ⟨b, 0, none⟩) l := by
  intro k hk
  obtain ⟨h0, h1, h2, h3⟩ := ruleCells_at l k hk
  exact ⟨b, 0, rfl, by rw [Nat.zero_add]; exact h _ _ h0, by rw [Nat.zero_add]; exact h _ _ h1, by rw [Nat.zero_add]; exact h _ _ h2, by rw [Nat.zero_add]; exact h _ _ h3⟩
theorem add_plain (b off j : Nat) : (⟨b, off, none⟩ : Addr).add j = ⟨b, off + j, none⟩ := by unfold Addr.add; split <;> simp_all
theorem rules_own {w : World} {B : Nat} {v : Value} {l : List RuleR} (hne : 0 < l.length) (h : w.ownsRow B 23 4 v l.length (ruleCells l)) : ∃ g cap, v = .slice (some ⟨g, 0, none⟩) l.length cap ∧ RulesAt w (some ⟨g, 0, none⟩) l := by
  obtain ⟨g, cap, rfl, _, _⟩ := h.form hne
  refine ⟨g, cap, rfl, rulesAt_of fun j u hu => ?_⟩
  have := h.cells (g := g) rfl j u hu
  rwa [add_plain, Nat.zero_add] at this
theorem infoRule2 : ∃ i, Try.prog.info? 23 = some i ∧ i.zero = some (.agg #[.bool false, .string ⟨#[]⟩, .string ⟨#[]⟩, .string ⟨#[]⟩]) ∧ i.size = 4 ∧ i.bytes = 56 := ⟨_, rfl, by kernel_rfl, by kernel_rfl, by kernel_rfl⟩

/-- append([]Rule{r}, l...), at a step of a region that draws its order. -/
theorem step_append_rules {w : World} {ops : Array Oper} {o : Oper} {a : Act} {K : Act → World → Prop} {Q : Exit → Act → World → Prop} {E : Prop} (hgd : o.guard = none) (s x : Operand)
    (ho : o.op = .call { callee := .builtin .append, args := #[s, x], argTypes := #[26, 26] })
    (B g cap : Nat) (r : RuleR) (hs : a.eval s = .slice (some ⟨g, 0, none⟩) 1 cap) (hown : w.ownsRow B 23 4 (.slice (some ⟨g, 0, none⟩) 1 cap) 1 (ruleCells [r])) (hB : B ≤ w.heap.size)
    (ad : Option Addr) (c n : Nat) (l : List RuleR) (hx : a.eval x = .slice ad n c) (hn : n = l.length) (hat : RulesAt w ad l) (hnil : ad = none → c = 0) (hlen : l.length ≤ 1000000)
    (h : ∀ g' c' w', RulesAt w' (some ⟨g', 0, none⟩) (r :: l) → w.grownBy w' (some g) → K (a.put o.dst (.slice (some ⟨g', 0, none⟩) (l.length + 1) c')) w') :
    if Region.wanted o (yielded ops a.tmps) = true then Oper.wp Try.prog o a w K Q else E := by
  have hw : Region.wanted o (yielded ops a.tmps) = true := by simp [Region.wanted, hgd]
  rw [if_pos hw]
  subst hn
  obtain ⟨i0, hi, hz0, hz1, hz2⟩ := infoRule2
  have fin : ∀ v' w', w'.ownsRow B 23 4 v' (1 + l.length) (ruleCells [r] ++ ruleCells l) → w.grownBy w' (some g) → K (a.put o.dst v') w' := by
    intro v' w' h1 h2
    rw [Nat.add_comm] at h1
    obtain ⟨g', c', rfl, h3⟩ := rules_own (l := r :: l) (by simp) h1
    exact h g' c' w' h3 h2
  cases ad with
  | none =>
    obtain rfl := hnil rfl
    have hl : l = [] := by
      cases l with
      | nil => rfl
      | cons y l => obtain ⟨_, _, e, _⟩ := hat 0 (by simp); cases e
    subst hl
    have hrun := run_append_owned_none (P := Try.prog) (w := w) B 26 o.type 23 i0 4 Try.underlying26 hi _ 1 (ruleCells [r]) hown
    have hx' : a.eval x = .slice none 0 0 := hx
    unfold Oper.wp
    simp [execOp, ho, resolve, invoke, builtin, hs, hx', hrun, Result.andThen]
    exact fin _ w (by simpa [ruleCells] using hown) ⟨rfl, rfl, rfl, Nat.le_refl _, fun _ _ _ => rfl⟩
  | some ad =>
    refine wp_append_own w s x 26 ho B 23 i0 _ 4 56 Try.underlying26 hi hz0 hz1 hz2 rfl (by decide) _ 1 (ruleCells [r]) hs hown ad l.length c (ruleCells l) hx (ruleCells_len l) ?_ ruleCells_one (by unfold maxLen; omega) (by omega) hB fun v' w' h1 h2 _ => fin v' w' h1 h2
    intro j u hu
    cases l with
    | nil => simp [ruleCells] at hu
    | cons y l =>
      obtain ⟨b, off, e, _⟩ := hat 0 (by simp)
      injection e with e
      subst e
      rw [add_plain]
      exact rulesAt_cells hat j u hu
end Go.Proofs.Ythdolhfaiofogaa
namespace Go.Proofs.Ythdolhfaiofogaa
open Go.RowKit GlobMath HeadMath NormMath HeadS NormS

def starB : ByteArray := ⟨#[42, 42]⟩
def xB : ByteArray := ⟨#[120]⟩
def allR (al : Bool) : RuleR := ⟨al, starB, starB, starB⟩
def noneR (al : Bool) : RuleR := ⟨al, starB, starB, xB⟩
theorem match_x (p : List UInt8) : matchF [120] p = decide ([120] = p) := match_lits (a := [120]) rfl (by decide)
theorem check_all (l : List RuleR) (al : Bool) (m : ByteArray) (fs : List (ByteArray × ByteArray)) (t : ByteArray) : checkV (allR al :: l) m fs t = .tuple #[.bool al, .int .i64 0] := by
  unfold checkV allR
  rw [checkF]
  have e : starB.data.toList = [42, 42] := rfl
  simp only [e, match_all]
  rfl
theorem check_none (l : List RuleR) (al : Bool) (m : ByteArray) (fs : List (ByteArray × ByteArray)) (t : ByteArray) (h : ¬ (pathOf t).data.toList = [120]) : checkV (noneR al :: l) m fs t = checkF m.data.toList (hostS fs).data.toList (pathOf t).data.toList l 1 := by
  unfold checkV noneR
  rw [checkF]
  have e : starB.data.toList = [42, 42] := rfl
  have e2 : xB.data.toList = [120] := rfl
  have e3 : matchF [120] (pathOf t).data.toList = false := by rw [match_x]; exact decide_eq_false (fun hh => h hh.symm)
  simp only [e, e2, match_all, e3]
  rfl
theorem lightRs_cons {r : RuleR} {l : List RuleR} (h1 : r.method.size ≤ 1000000) (h2 : r.host.size ≤ 1000000) (h3 : r.path.size ≤ 1000000) (h : LightRs l) (hl : l.length ≤ 20) : LightRs (r :: l) := by
  refine ⟨by simp; omega, fun j hj => ?_⟩
  cases j with
  | zero => exact ⟨h1, h2, h3⟩
  | succ j => exact h.2 j (by simpa using hj)
theorem checkF_shift (m h p : List UInt8) : ∀ (l : List RuleR) (i : Nat), i + l.length < 1000000000 → ∃ (b : Bool) (n : Int), checkF m h p l i = .tuple #[.bool b, .int .i64 n] ∧ checkF m h p l (i + 1) = .tuple #[.bool b, .int .i64 (if 0 ≤ n then n + 1 else n)] ∧ (n = -1 ∨ 0 ≤ n ∧ n < 1000000000)
  | [], i, _ => ⟨true, -1, rfl, rfl, .inl rfl⟩
  | r :: l, i, hi => by
    simp only [List.length_cons] at hi
    obtain ⟨b, n, e1, e2, h3⟩ := checkF_shift m h p l (i + 1) (by omega)
    unfold checkF
    split
    · refine ⟨_, _, rfl, ?_, .inr ⟨Int.natCast_nonneg i, by omega⟩⟩
      rw [if_pos (Int.natCast_nonneg i)]
      rfl
    · exact ⟨b, n, e1, e2, h3⟩
set_option maxRecDepth 100000 in
set_option maxHeartbeats 8000000 in
theorem first_any (a : Option Addr) (c : Nat) (l : List RuleR) (al : Bool) (m t : ByteArray) (fa : Option Addr) (fc : Nat) (fs : List (ByteArray × ByteArray)) (ba : Option Addr) (bn bc : Nat) (w : World)
    (hat : RulesAt w a l) (hnil : a = none → c = 0) (hin : FieldsIn w.heap.size w fa fs) (hl : fs.length < 9223372036854775808) (hsz : ∀ j (h : j < fs.length), (fs[j]).1.size ≤ 9223372036854775807 ∧ (fs[j]).2.size ≤ 9223372036854775807) (hbn : bn < 9223372036854775808) (hm : m.size ≤ 9223372036854775807) (ht : t.size ≤ 9223372036854775807) :
    Calls Try.prog 5 #[.slice a l.length c, reqV m t (.slice fa fs.length fc) (.slice ba bn bc), .bool al] w (Yes w) := by
  obtain ⟨w0, hw0⟩ : ∃ w0, w.alloc (.cells #[.string m, .string t, .slice fa fs.length fc, .slice ba bn bc] 38) = w0 := ⟨_, rfl⟩
  have hb0 : Below w.heap.size w w0 := by rw [← hw0]; exact ((Spares.refl nowhere w).alloc _).below0
  have hz0 : w0.heap.size = w.heap.size + 1 := by rw [← hw0]; simp
  have q : w0.cell? ⟨w.heap.size, 0, none⟩ = some (.string m) ∧ w0.cell? ⟨w.heap.size, 1, none⟩ = some (.string t) ∧ w0.cell? ⟨w.heap.size, 2, none⟩ = some (.slice fa fs.length fc) ∧ w0.cell? ⟨w.heap.size, 3, none⟩ = some (.slice ba bn bc) := by
    rw [← hw0]; refine ⟨?_, ?_, ?_, ?_⟩ <;> simp [go_sem]
  have hw : Hid (∀ x, Below w0.heap.size w0 x → (RulesAt x a l ∧ FieldsIn x.heap.size x fa fs ∧ Below w.heap.size w x) ∧ x.cell? ⟨w.heap.size, 0, none⟩ = some (.string m) ∧ x.cell? ⟨w.heap.size, 1, none⟩ = some (.string t) ∧ x.cell? ⟨w.heap.size, 2, none⟩ = some (.slice fa fs.length fc) ∧ x.cell? ⟨w.heap.size, 3, none⟩ = some (.slice ba bn bc)) := Lib.hid (fun x hx => by
    have hbx := hb0.trans (hx.mono hb0.size)
    refine ⟨⟨hat.below hbx rfl, ?_, hbx⟩, ?_⟩
    · intro j hj
      obtain ⟨b, off, h1, h2, h3, h4⟩ := fieldsIn_below' hin hbx j hj
      exact ⟨b, off, h1, by have := hbx.size; omega, h3, h4⟩
    · have hy : ∀ {j : Nat} {u : Value}, w0.cell? ⟨w.heap.size, j, none⟩ = some u → x.cell? ⟨w.heap.size, j, none⟩ = some u := fun {j u} h => (hx.cell (p := ⟨w.heap.size, j, none⟩) (by show w.heap.size < _; omega)).trans h
      exact ⟨hy q.1, hy q.2.1, hy q.2.2.1, hy q.2.2.2⟩)
  have HW0 := Lib.hid hw0
  have HSZ := Lib.hid hsz
  have HL := Lib.hid hl
  have HM := Lib.hid hm
  have HT := Lib.hid ht
  have HBN := Lib.hid hbn
  have HNIL := Lib.hid hnil
  clear hnil hat hin hw0 hb0 hsz hl hm ht hbn q hz0
  unfold reqV Yes
  go_enter Try.func5, Try.ntmps5
  go_wp2_with fail
  change Calls _ _ _ (w.alloc (.cells #[.string m, .string t, .slice fa fs.length fc, .slice ba bn bc] 38)) _
  rw [HW0.out]
  refine (known_any w0).mono ?_
  rintro e w1 ⟨rfl, hb1⟩
  obtain ⟨⟨hr1, hf1, hx1⟩, a0, a1, a2, a3⟩ := hw.out w1 hb1
  go_wp2_with fail
  refine (light_any a c l w1 hr1).mono ?_
  rintro e w1' ⟨rfl, rfl⟩
  cases hlf : lightF l with
  | false =>
    clear hr1 hf1
    go_wp2
    go_ret
    exact ⟨rfl, hx1⟩
  | true =>
    have HRS := Lib.hid (lightF_LightRs hlf)
    have HL20 := Lib.hid (lightF_rs hlf).1
    clear hlf
    go_wp2_with fail
    refine (lightQ_any m t fa fc fs ba bn bc w1' hf1 HL.out HSZ.out HBN.out HM.out HT.out).mono ?_
    rintro e w2 ⟨b, rfl, hb2, hq⟩
    replace hb2 := hb1.trans (hb2.mono hb1.size)
    clear hr1 hf1 a0 a1 a2 a3
    obtain ⟨⟨hr2, hf2, hx2⟩, a0, a1, a2, a3⟩ := hw.out w2 hb2
    cases b with
    | false =>
      clear hr2 hf2 hq
      go_wp2
      go_ret
      exact ⟨rfl, hx2⟩
    | true =>
      obtain ⟨hm1, ht1, hff⟩ := hq rfl
      have HFF := Lib.hid hff.few
      clear hq hff
      have a0' := a0
      by_cases h90 : m.size ≤ 90
      · have hr2' := Lib.hid hr2
        have hf2' := Lib.hid hf2
        clear hr2 hf2
        obtain ⟨v2, hv2⟩ : ∃ v2, (w2.alloc (.cells #[.bool al, .string ⟨#[42, 42]⟩, .string ⟨#[42, 42]⟩, .string ⟨#[42, 42]⟩] 23)).alloc (.cells #[.bool al, .string ⟨#[42, 42]⟩, .string ⟨#[42, 42]⟩, .string ⟨#[120]⟩] 23) = v2 := ⟨_, rfl⟩
        have hz2 : v2.heap.size = w2.heap.size + 2 := by rw [← hv2]; simp
        have hA : v2.cell? ⟨w2.heap.size, 0, none⟩ = some (.bool al) ∧ v2.cell? ⟨w2.heap.size, 1, none⟩ = some (.string ⟨#[42, 42]⟩) ∧ v2.cell? ⟨w2.heap.size, 2, none⟩ = some (.string ⟨#[42, 42]⟩) ∧ v2.cell? ⟨w2.heap.size, 3, none⟩ = some (.string ⟨#[42, 42]⟩) := by
          rw [← hv2]
          refine ⟨?_, ?_, ?_, ?_⟩ <;> simp [go_sem]
        have hN : v2.cell? ⟨(w2.heap.size + 1), 0, none⟩ = some (.bool al) ∧ v2.cell? ⟨(w2.heap.size + 1), 1, none⟩ = some (.string ⟨#[42, 42]⟩) ∧ v2.cell? ⟨(w2.heap.size + 1), 2, none⟩ = some (.string ⟨#[42, 42]⟩) ∧ v2.cell? ⟨(w2.heap.size + 1), 3, none⟩ = some (.string ⟨#[120]⟩) := by
          rw [← hv2]
          refine ⟨?_, ?_, ?_, ?_⟩ <;> simp [go_sem]
        have hbv : Below w2.heap.size w2 v2 := by rw [← hv2]; exact (((Spares.refl nowhere w2).alloc _).alloc _).below0
        have HV2 := Lib.hid hv2
        have HZ2' := Lib.hid hz2
        clear hv2 hz2
        go_wp2
        change Code.wp _ (Code.region _ _ _) _ _ ((w2.alloc (.cells #[.bool al, .string ⟨#[42, 42]⟩, .string ⟨#[42, 42]⟩, .string ⟨#[42, 42]⟩] 23)).alloc (.cells #[.bool al, .string ⟨#[42, 42]⟩, .string ⟨#[42, 42]⟩, .string ⟨#[120]⟩] 23))
        rw [HV2.out]
        have HBV := Lib.hid hbv
        have HMT := Lib.hid (show m.size ≤ 1000000 ∧ t.size ≤ 1000000 from ⟨by omega, by omega⟩)
        have hf2 : Hid (FieldsIn v2.heap.size v2 fa fs) := Lib.hid (fun j hj => by
          obtain ⟨b, off, h1, h2, h3, h4⟩ := fieldsIn_below' hf2'.out hbv j hj
          exact ⟨b, off, h1, by have := hbv.size; omega, h3, h4⟩)
        have HV2c := Lib.hid (check_all l al m fs t)
        have hr2 : Hid (RulesAt v2 a l) := Lib.hid (hr2'.out.below hbv rfl)
        have hs2 : v2.cell? ⟨w.heap.size, 0, none⟩ = some (.string m) ∧ v2.cell? ⟨w.heap.size, 1, none⟩ = some (.string t) ∧ v2.cell? ⟨w.heap.size, 2, none⟩ = some (.slice fa fs.length fc) ∧ v2.cell? ⟨w.heap.size, 3, none⟩ = some (.slice ba bn bc) ∧ v2.cell? ⟨w2.heap.size, 0, none⟩ = some (.bool al) ∧ v2.cell? ⟨w2.heap.size, 1, none⟩ = some (.string ⟨#[42, 42]⟩) ∧ v2.cell? ⟨w2.heap.size, 2, none⟩ = some (.string ⟨#[42, 42]⟩) ∧ v2.cell? ⟨w2.heap.size, 3, none⟩ = some (.string ⟨#[42, 42]⟩) := ⟨(hbv.cell (p := ⟨w.heap.size, 0, none⟩) (cell_in a0')).trans a0, (hbv.cell (p := ⟨w.heap.size, 1, none⟩) (cell_in a0')).trans a1, (hbv.cell (p := ⟨w.heap.size, 2, none⟩) (cell_in a0')).trans a2, (hbv.cell (p := ⟨w.heap.size, 3, none⟩) (cell_in a0')).trans a3, hA⟩
        have HO2 : Hid ((v2.alloc (.cells #[.bool al, .string ⟨#[42, 42]⟩, .string ⟨#[42, 42]⟩, .string ⟨#[42, 42]⟩] 23)).ownsRow v2.heap.size 23 4 (.slice (some ⟨v2.heap.size, 0, none⟩) 1 1) 1 (ruleCells [allR al])) := Lib.hid (World.ownsRow_lit (base := v2.heap.size) (size := 4) (e := 23) v2 #[.bool al, .string ⟨#[42, 42]⟩, .string ⟨#[42, 42]⟩, .string ⟨#[42, 42]⟩] 1 (Nat.le_refl _) (by decide) rfl)
        have HR2 : Hid (∀ W, Below v2.heap.size v2 W → RulesAt W a l) := Lib.hid (fun W hW => hr2.out.below hW rfl)
        have HZ2 : Hid (v2.heap.size ≤ (v2.alloc (.cells #[.bool al, .string ⟨#[42, 42]⟩, .string ⟨#[42, 42]⟩, .string ⟨#[42, 42]⟩] 23)).heap.size) := Lib.hid (by simp)
        have HRA2 : Hid (RulesAt (v2.alloc (.cells #[.bool al, .string ⟨#[42, 42]⟩, .string ⟨#[42, 42]⟩, .string ⟨#[42, 42]⟩] 23)) a l) := Lib.hid (HR2.out _ ((Below.refl _ _).alloc (Nat.le_refl _) _))
        have HG2 : Hid (∀ W, World.grownBy (v2.alloc (.cells #[.bool al, .string ⟨#[42, 42]⟩, .string ⟨#[42, 42]⟩, .string ⟨#[42, 42]⟩] 23)).drew W (some v2.heap.size) → Below v2.heap.size v2 W) := Lib.hid (fun W hg => Below.grown ((Below.refl _ v2).alloc (Nat.le_refl _) _).drew hg HZ2.out (fun g e => by injection e with e; omega))
        have HS2 : Hid (∀ W, Below v2.heap.size v2 W → W.cell? ⟨w.heap.size, 0, none⟩ = some (.string m) ∧ W.cell? ⟨w.heap.size, 1, none⟩ = some (.string t) ∧ W.cell? ⟨w.heap.size, 2, none⟩ = some (.slice fa fs.length fc) ∧ W.cell? ⟨w.heap.size, 3, none⟩ = some (.slice ba bn bc) ∧ W.cell? ⟨w2.heap.size, 0, none⟩ = some (.bool al) ∧ W.cell? ⟨w2.heap.size, 1, none⟩ = some (.string ⟨#[42, 42]⟩) ∧ W.cell? ⟨w2.heap.size, 2, none⟩ = some (.string ⟨#[42, 42]⟩) ∧ W.cell? ⟨w2.heap.size, 3, none⟩ = some (.string ⟨#[42, 42]⟩)) := Lib.hid (fun W hW => by
          have hh := hs2
          exact ⟨(four_kin (w := v2) ⟨W, hW⟩ ⟨hh.1, hh.2.1, hh.2.2.1, hh.2.2.2.1⟩).1, (four_kin (w := v2) ⟨W, hW⟩ ⟨hh.1, hh.2.1, hh.2.2.1, hh.2.2.2.1⟩).2.1, (four_kin (w := v2) ⟨W, hW⟩ ⟨hh.1, hh.2.1, hh.2.2.1, hh.2.2.2.1⟩).2.2.1, (four_kin (w := v2) ⟨W, hW⟩ ⟨hh.1, hh.2.1, hh.2.2.1, hh.2.2.2.1⟩).2.2.2, four_kin (w := v2) ⟨W, hW⟩ hh.2.2.2.2⟩)
        have HF2 : Hid (∀ W, Below v2.heap.size v2 W → FieldsIn W.heap.size W fa fs) := Lib.hid (fun W hW j hj => by
          obtain ⟨b, off, h1, h2, h3, h4⟩ := fieldsIn_below' hf2.out hW j hj
          exact ⟨b, off, h1, by have := hW.size; omega, h3, h4⟩)
        have HLR2 : Hid (LightRs (allR al :: l)) := Lib.hid (lightRs_cons (by show starB.size ≤ _; decide) (by show starB.size ≤ _; decide) (by show (starB).size ≤ _; decide) HRS.out HL20.out)
        have s0 := HS2.out v2.drew (Below.refl _ v2).drew
        go_region_held3 (fun w' => w'.cell? ⟨w.heap.size, 0, none⟩ = some (.string m) ∧ w'.cell? ⟨w.heap.size, 1, none⟩ = some (.string t) ∧ w'.cell? ⟨w.heap.size, 2, none⟩ = some (.slice fa fs.length fc) ∧ w'.cell? ⟨w.heap.size, 3, none⟩ = some (.slice ba bn bc) ∧ w'.cell? ⟨w2.heap.size, 0, none⟩ = some (.bool al) ∧ w'.cell? ⟨w2.heap.size, 1, none⟩ = some (.string ⟨#[42, 42]⟩) ∧ w'.cell? ⟨w2.heap.size, 2, none⟩ = some (.string ⟨#[42, 42]⟩) ∧ w'.cell? ⟨w2.heap.size, 3, none⟩ = some (.string ⟨#[42, 42]⟩)) (first | exact s2b | exact s2a | exact s0 | go_keep)
          (first
            | (refine step_append_rules (by rfl) (.tmp 40) (.tmp 41) (by rfl) v2.heap.size v2.heap.size 1 (allR al) (by rfl) HO2.out HZ2.out a c l.length l (by rfl) rfl HRA2.out HNIL.out HRS.out.1 ?_
               intro g2 c2 x2 hra2 hgr2
               have hba2 : Below v2.heap.size v2 x2 := HG2.out _ hgr2
               have s2a := HS2.out x2 hba2)
            | (go_simp
               go_at_call 14
               refine (check_any (some ⟨g2, 0, none⟩) c2 (allR al :: l) m t fa fc fs ba bn bc x2 hra2 HLR2.out HMT.out.1 HMT.out.2 (HF2.out _ hba2) HFF.out).mono ?_
               rw [HV2c.out]
               rintro e y2 ⟨rfl, hbb2⟩
               have hbc2 := hba2.trans (hbb2.mono hba2.size)
               have s2b := HS2.out y2 hbc2))
        have e0 := s2b.1
        have e1 := s2b.2.1
        have e2 := s2b.2.2.1
        have e3 := s2b.2.2.2.1
        clear s2a s2b s0 hra2 hgr2 hba2 hbb2
        obtain ⟨b0, n0, hk0, hk1, hn0⟩ := checkF_shift m.data.toList (hostS fs).data.toList (pathOf t).data.toList l 0 (by have := HL20.out; omega)
        have HK0 : Hid (checkV l m fs t = .tuple #[.bool b0, .int .i64 n0]) := Lib.hid hk0
        have hkn : ∃ (b1 : Bool) (n1 : Int), checkV (noneR al :: l) m fs t = .tuple #[.bool b1, .int .i64 n1] ∧ (¬ (pathOf t).data.toList = [120] → b1 = b0 ∧ n1 = (if 0 ≤ n0 then n0 + 1 else n0)) := by
          by_cases hx : (pathOf t).data.toList = [120]
          · obtain ⟨b1, n1, h, _⟩ := checkF_tuple m.data.toList (hostS fs).data.toList (pathOf t).data.toList (noneR al :: l) 0 (by have := HL20.out; simp; omega)
            exact ⟨b1, n1, h, fun h => absurd hx h⟩
          · exact ⟨b0, _, (check_none l al m fs t hx).trans hk1, fun _ => ⟨rfl, rfl⟩⟩
        obtain ⟨b1, n1, hk2, himp⟩ := hkn
        have HV3c := Lib.hid hk2
        have HIMP := Lib.hid himp
        have HN0 := Lib.hid hn0
        clear hk0 hk1 hk2 himp hn0
        have hrr := HR2.out y2 hbc2
        have hff2 := HF2.out y2 hbc2
        have HBC2 := Lib.hid hbc2
        have hlt2 : w.heap.size < y2.heap.size := cell_in e0
        clear hbc2
        go_wp2_with fail
        refine (check_any a c l m t fa fc fs ba bn bc y2 hrr HRS.out HMT.out.1 HMT.out.2 hff2 HFF.out).mono ?_
        rw [HK0.out]
        rintro e z2 ⟨rfl, hbd⟩
        clear e0 e1 e2 e3 hrr hff2 hlt2
        have hbe := HBC2.out.trans (hbd.mono HBC2.out.size)
        have hr3 : Hid (RulesAt z2 a l) := Lib.hid (HR2.out z2 hbe)
        have hf3 : Hid (FieldsIn z2.heap.size z2 fa fs) := Lib.hid (HF2.out z2 hbe)
        have hs3 : z2.cell? ⟨w.heap.size, 0, none⟩ = some (.string m) ∧ z2.cell? ⟨w.heap.size, 1, none⟩ = some (.string t) ∧ z2.cell? ⟨w.heap.size, 2, none⟩ = some (.slice fa fs.length fc) ∧ z2.cell? ⟨w.heap.size, 3, none⟩ = some (.slice ba bn bc) ∧ z2.cell? ⟨(w2.heap.size + 1), 0, none⟩ = some (.bool al) ∧ z2.cell? ⟨(w2.heap.size + 1), 1, none⟩ = some (.string ⟨#[42, 42]⟩) ∧ z2.cell? ⟨(w2.heap.size + 1), 2, none⟩ = some (.string ⟨#[42, 42]⟩) ∧ z2.cell? ⟨(w2.heap.size + 1), 3, none⟩ = some (.string ⟨#[120]⟩) := by
          have h := HS2.out z2 hbe
          exact ⟨h.1, h.2.1, h.2.2.1, h.2.2.2.1, four_kin (w := v2) ⟨z2, hbe⟩ hN⟩
        have HBE := Lib.hid (show Below w2.heap.size w2 z2 from HBV.out.trans (hbe.mono HBV.out.size))
        clear hbd hbe HR2 HF2 HS2 HG2 HZ2 HRA2 HO2 HLR2 hs2 hr2 hf2 hA hN
        go_wp2
        have HO3 : Hid ((z2.alloc (.cells #[.bool al, .string ⟨#[42, 42]⟩, .string ⟨#[42, 42]⟩, .string ⟨#[120]⟩] 23)).ownsRow z2.heap.size 23 4 (.slice (some ⟨z2.heap.size, 0, none⟩) 1 1) 1 (ruleCells [noneR al])) := Lib.hid (World.ownsRow_lit (base := z2.heap.size) (size := 4) (e := 23) z2 #[.bool al, .string ⟨#[42, 42]⟩, .string ⟨#[42, 42]⟩, .string ⟨#[120]⟩] 1 (Nat.le_refl _) (by decide) rfl)
        have HR3 : Hid (∀ W, Below z2.heap.size z2 W → RulesAt W a l) := Lib.hid (fun W hW => hr3.out.below hW rfl)
        have HZ3 : Hid (z2.heap.size ≤ (z2.alloc (.cells #[.bool al, .string ⟨#[42, 42]⟩, .string ⟨#[42, 42]⟩, .string ⟨#[120]⟩] 23)).heap.size) := Lib.hid (by simp)
        have HRA3 : Hid (RulesAt (z2.alloc (.cells #[.bool al, .string ⟨#[42, 42]⟩, .string ⟨#[42, 42]⟩, .string ⟨#[120]⟩] 23)) a l) := Lib.hid (HR3.out _ ((Below.refl _ _).alloc (Nat.le_refl _) _))
        have HG3 : Hid (∀ W, World.grownBy (z2.alloc (.cells #[.bool al, .string ⟨#[42, 42]⟩, .string ⟨#[42, 42]⟩, .string ⟨#[120]⟩] 23)).drew W (some z2.heap.size) → Below z2.heap.size z2 W) := Lib.hid (fun W hg => Below.grown ((Below.refl _ z2).alloc (Nat.le_refl _) _).drew hg HZ3.out (fun g e => by injection e with e; omega))
        have HS3 : Hid (∀ W, Below z2.heap.size z2 W → W.cell? ⟨w.heap.size, 0, none⟩ = some (.string m) ∧ W.cell? ⟨w.heap.size, 1, none⟩ = some (.string t) ∧ W.cell? ⟨w.heap.size, 2, none⟩ = some (.slice fa fs.length fc) ∧ W.cell? ⟨w.heap.size, 3, none⟩ = some (.slice ba bn bc) ∧ W.cell? ⟨(w2.heap.size + 1), 0, none⟩ = some (.bool al) ∧ W.cell? ⟨(w2.heap.size + 1), 1, none⟩ = some (.string ⟨#[42, 42]⟩) ∧ W.cell? ⟨(w2.heap.size + 1), 2, none⟩ = some (.string ⟨#[42, 42]⟩) ∧ W.cell? ⟨(w2.heap.size + 1), 3, none⟩ = some (.string ⟨#[120]⟩)) := Lib.hid (fun W hW => by
          have hh := hs3
          exact ⟨(four_kin (w := z2) ⟨W, hW⟩ ⟨hh.1, hh.2.1, hh.2.2.1, hh.2.2.2.1⟩).1, (four_kin (w := z2) ⟨W, hW⟩ ⟨hh.1, hh.2.1, hh.2.2.1, hh.2.2.2.1⟩).2.1, (four_kin (w := z2) ⟨W, hW⟩ ⟨hh.1, hh.2.1, hh.2.2.1, hh.2.2.2.1⟩).2.2.1, (four_kin (w := z2) ⟨W, hW⟩ ⟨hh.1, hh.2.1, hh.2.2.1, hh.2.2.2.1⟩).2.2.2, four_kin (w := z2) ⟨W, hW⟩ hh.2.2.2.2⟩)
        have HF3 : Hid (∀ W, Below z2.heap.size z2 W → FieldsIn W.heap.size W fa fs) := Lib.hid (fun W hW j hj => by
          obtain ⟨b, off, h1, h2, h3, h4⟩ := fieldsIn_below' hf3.out hW j hj
          exact ⟨b, off, h1, by have := hW.size; omega, h3, h4⟩)
        have HLR3 : Hid (LightRs (noneR al :: l)) := Lib.hid (lightRs_cons (by show starB.size ≤ _; decide) (by show starB.size ≤ _; decide) (by show (xB).size ≤ _; decide) HRS.out HL20.out)
        have s0 := HS3.out z2.drew (Below.refl _ z2).drew
        go_region_held3 (fun w' => w'.cell? ⟨w.heap.size, 0, none⟩ = some (.string m) ∧ w'.cell? ⟨w.heap.size, 1, none⟩ = some (.string t) ∧ w'.cell? ⟨w.heap.size, 2, none⟩ = some (.slice fa fs.length fc) ∧ w'.cell? ⟨w.heap.size, 3, none⟩ = some (.slice ba bn bc) ∧ w'.cell? ⟨(w2.heap.size + 1), 0, none⟩ = some (.bool al) ∧ w'.cell? ⟨(w2.heap.size + 1), 1, none⟩ = some (.string ⟨#[42, 42]⟩) ∧ w'.cell? ⟨(w2.heap.size + 1), 2, none⟩ = some (.string ⟨#[42, 42]⟩) ∧ w'.cell? ⟨(w2.heap.size + 1), 3, none⟩ = some (.string ⟨#[120]⟩)) (first | exact s3b | exact s3a | exact s0 | go_keep)
          (first
            | (refine step_append_rules (by rfl) (.tmp 55) (.tmp 56) (by rfl) z2.heap.size z2.heap.size 1 (noneR al) (by rfl) HO3.out HZ3.out a c l.length l (by rfl) rfl HRA3.out HNIL.out HRS.out.1 ?_
               intro g3 c3 x3 hra3 hgr3
               have hba3 : Below z2.heap.size z2 x3 := HG3.out _ hgr3
               have s3a := HS3.out x3 hba3)
            | (go_simp
               go_at_call 14
               refine (check_any (some ⟨g3, 0, none⟩) c3 (noneR al :: l) m t fa fc fs ba bn bc x3 hra3 HLR3.out HMT.out.1 HMT.out.2 (HF3.out _ hba3) HFF.out).mono ?_
               rw [HV3c.out]
               rintro e y3 ⟨rfl, hbb3⟩
               have hbc3 := hba3.trans (hbb3.mono hba3.size)
               have s3b := HS3.out y3 hbc3))
        have e0 := s3b.1
        have e1 := s3b.2.1
        have HBF := Lib.hid (show Below w2.heap.size w2 y3 from HBE.out.trans (hbc3.mono HBE.out.size))
        clear s3a s3b s0 hra3 hgr3 hba3 hbb3 hbc3
        go_wp2_with fail
        refine (refSplit_any t y3 (by omega)).mono ?_
        rintro e y4 ⟨dm, rfl, rfl⟩
        obtain ⟨sq, sb, hsv⟩ := splitV_path t
        rw [hsv]
        clear hsv e0 e1
        obtain ⟨pt, hpt⟩ : ∃ pt, pathOf t = pt := ⟨_, rfl⟩
        rw [hpt]
        rw [hpt] at HIMP
        have HFIN : Hid (Below w.heap.size w (y3.drewN dm)) := Lib.hid (hx2.trans (below_drewN (HBF.out.mono hx2.size) dm))
        clear hpt hx2
        by_cases hx : pt.data.toList = [120]
        · have hx' : (pt.toList == [120]) = true := by rw [Lib.toList_data, hx]; rfl
          clear hx
          go_wp2
          go_ret
          exact ⟨rfl, HFIN.out⟩
        · obtain ⟨rfl, hn1⟩ := HIMP.out hx
          have hx' : (pt.toList == [120]) = false := by rw [Lib.toList_data]; simpa using hx
          clear hx
          by_cases h0 : 0 ≤ n0
          · rw [if_pos h0] at hn1
            subst hn1
            have hw1 : wrap64 (n0 + 1) = n0 + 1 := by
              have := HN0.out
              simp only [wrap64]
              omega
            go_wp2
            go_ret
            exact ⟨rfl, HFIN.out⟩
          · rw [if_neg h0] at hn1
            subst hn1
            go_wp2
            go_ret
            exact ⟨rfl, HFIN.out⟩
      · clear hr2 hf2
        go_wp2
        go_ret
        exact ⟨rfl, hx2⟩
end Go.Proofs.Ythdolhfaiofogaa
