/-
  The reference's All, Get, Drop, Set, Lines.
-/
import Derived.Test.YtckhjhgddnjfpaaDoorHeadBack
namespace Go.Proofs.YtckhjhgddnjfpaaDoor
open Go.RowKit HeadMath

set_option maxHeartbeats 4000000 in
theorem refAll_any (l : Fs) (x : ByteArray) (a : Option Addr) (cap n : Nat) (w : World) (hin : FieldsIn w.heap.size w a l) (hN : n = l.length) (hsm : SmallF l) (hle : l.length ≤ 1000000) (hx : x.size ≤ 140737488351232) :
    Calls Tryd.prog 28 #[.slice a n cap, .string x] w (RowPost w (allF x l)) := by
  have HIN := Lib.hid hin
  have HN := Lib.hid hN
  have HSM := Lib.hid hsm
  have hle2 : n ≤ 1000000 := by omega
  clear hin hN hsm hle
  go_enter Tryd.func28, Tryd.ntmps28
  go_wp2
  go_loopw [5, 6] (fun v i wr => ∃ (k : Nat) (r : List ByteArray), k ≤ n ∧ i = .int .i64 k ∧ Hid (allF x (l.take k) = r) ∧ r.length ≤ k ∧ Hid (OwnStrs w.heap.size wr v r) ∧ Hid (Below w.heap.size w wr)) (fun _ i _ => n - (intOf i).toNat)
  case atStart => exact ⟨0, [], Nat.zero_le _, rfl, Lib.hid rfl, Nat.le_refl _, Lib.hid (World.ownsRow_nil _ _ _ _), Lib.hid (Below.refl _ _)⟩
  case round =>
    obtain ⟨k, r, hk, rfl, HA, hrl, HO, HB⟩ := hrel
    by_cases hlt : k < n
    · have hlt2 : k < l.length := by have := HN.out; omega
      obtain ⟨b, off, rfl, hbl, hc1, hc2⟩ := HIN.out k hlt2
      have hs1 := HSM.out k hlt2
      have x0 := (HB.out.cell (p := ⟨b, off + k * 2, none⟩) hbl).trans hc1
      obtain ⟨nm, vl, hf⟩ : ∃ nm vl, l[k] = (nm, vl) := ⟨_, _, rfl⟩
      have HF := Lib.hid hf
      simp only [hf] at x0 hc2 hs1
      have HC2 := Lib.hid hc2
      obtain ⟨t, ht⟩ : ∃ t, sameF nm.data.toList x.data.toList = t := ⟨_, rfl⟩
      have HT := Lib.hid ht
      have i1 : (k : Int) < (n : Int) := by omega
      clear hc1 hc2 hf ht
      go_wp2_with fail
      refine (refSame_any nm x _ hs1.1 hx).mono ?_
      rw [HT.out]
      rintro e w1 ⟨rfl, hb1⟩
      have HB1 := Lib.hid (HB.out.trans (hb1.mono HB.out.size))
      have HO1 := Lib.hid (show OwnStrs w.heap.size w1 u5 r from ownsRow_below HO.out hb1)
      clear x0 hb1
      cases t with
      | false =>
        have HG := Lib.hid (show allF x (l.take (k + 1)) = r from by rw [allF_no hlt2 (by rw [HF.out]; exact HT.out), HA.out])
        go_wp2
        go_roundw
        case rel => exact ⟨k + 1, r, by omega, by go_num, HG, by omega, HO1, HB1⟩
        case measure => simp [intOf]; omega
      | true =>
        have HG := Lib.hid (show allF x (l.take (k + 1)) = r ++ [vl] from by rw [allF_yes hlt2 (by rw [HF.out]; exact HT.out), HA.out, HF.out])
        have y1 := (HB1.out.cell (p := ⟨b, off + k * 2 + 1, none⟩) hbl).trans HC2.out
        have HO2 := Lib.hid (show OwnStrs w.heap.size (w1.alloc (.cells #[.string vl] 9)) u5 r from HO1.out.alloc _)
        have HS2 := Lib.hid (strsIn_one w1 9 vl)
        have HB2 := Lib.hid (HB1.out.alloc (o := .cells #[.string vl] 9) HB1.out.size)
        have HLEN := Lib.hid (show r.length + [vl].length ≤ 1000000000000 by simp; omega)
        go_wp2_with (at_builtin; refine wpList_append_strs rfl _ _ rfl w.heap.size (w1.alloc (.cells #[.string vl] 9)).heap.size u5 r rfl HO2.out HB2.out.size (some ⟨w1.heap.size, 0, none⟩) 1 1 [vl] rfl rfl HS2.out (fun e => by cases e) HLEN.out ?_)
        intro v4 w4 ho4 hg4
        have HO4 := Lib.hid ho4
        have HB4 := Lib.hid (HB2.out.grown hg4 HB2.out.size (fun g hg => (World.ownsRow.lt HO2.out g hg).1))
        clear ho4 hg4 HO2 HS2 HB2 HO1 HB1 y1
        go_wp2
        go_roundw
        case rel => exact ⟨k + 1, r ++ [vl], by omega, by go_num, HG, by simp; omega, HO4, HB4⟩
        case measure => simp [intOf]; omega
    · have HG := Lib.hid (show allF x l = r from by have := HA.out; rwa [List.take_of_length_le (by have := HN.out; omega)] at this)
      go_wp2
      go_ret
      rw [HG.out]
      exact ⟨_, rfl, HO.out, HB.out⟩
theorem allF_first {n : ByteArray} {l : Fs} {v : ByteArray} {r : List ByteArray} (h : allF n l = v :: r) : getF n l = some v := by
  unfold allF at h
  unfold getF
  induction l with
  | nil => cases h
  | cons f l ih =>
    rw [List.filter_cons] at h
    rw [List.find?_cons]
    cases hf : isNamed n f with
    | true => rw [hf] at h; simp at h; simp [h.1]
    | false => rw [hf] at h; simp at h; simp only; exact ih (by simpa using h)
theorem allF_nil {n : ByteArray} {l : Fs} (h : allF n l = []) : getF n l = none := by
  refine getF_none (fun j hj => ?_)
  unfold allF at h
  rw [List.map_eq_nil_iff, List.filter_eq_nil_iff] at h
  simpa using h _ (List.getElem_mem hj)
set_option maxHeartbeats 1000000 in
theorem refGet_any (l : Fs) (x : ByteArray) (a : Option Addr) (cap n : Nat) (w : World) (hin : FieldsIn w.heap.size w a l) (hN : n = l.length) (hsm : SmallF l) (hle : l.length ≤ 1000000) (hx : x.size ≤ 140737488351232) :
    Calls Tryd.prog 25 #[.slice a n cap, .string x] w (GetPost x l w) := by
  have HC := Lib.hid ((refAll_any l x a cap n w hin hN hsm hle hx).mono fun _ _ h => h.slice)
  clear hin hN hsm hle
  go_enter Tryd.func25, Tryd.ntmps25
  go_wp2_with fail
  refine HC.out.mono ?_
  rintro e w1 ⟨a1, c1, rfl, hs1, hb1⟩
  obtain ⟨r, hr⟩ : ∃ r, allF x l = r := ⟨_, rfl⟩
  rw [hr] at hs1 ⊢
  have HR := Lib.hid hr
  have HB := Lib.hid hb1
  cases r with
  | nil =>
    clear hr hs1 hb1 HC
    go_wp2
    go_ret2
    exact ⟨HB.out, .inl ⟨allF_nil HR.out, rfl⟩⟩
  | cons v r =>
    obtain ⟨b, off, rfl, _, hc⟩ := hs1 0 (by simp)
    simp only [List.getElem_cons_zero, Nat.add_zero] at hc
    obtain ⟨m, hm⟩ : ∃ m, (v :: r).length = m := ⟨_, rfl⟩
    have q : ((m : Int) == 0) = false := by rw [beq_eq_false_iff_ne]; rw [← hm]; simp; omega
    have q2 : (0 : Int) < (m : Int) := by rw [← hm]; simp
    have q3 : 0 < m := by omega
    rw [hm]
    clear hr hb1 HC hm
    go_wp2
    go_ret2
    exact ⟨HB.out, .inr ⟨v, allF_first HR.out, rfl⟩⟩
set_option maxHeartbeats 4000000 in
theorem refDrop_any (l : Fs) (x : ByteArray) (a : Option Addr) (cap n : Nat) (w : World) (hin : FieldsIn w.heap.size w a l) (hN : n = l.length) (hsm : SmallF l) (hle : l.length ≤ 1000000) (hx : x.size ≤ 140737488351232) :
    Calls Tryd.prog 32 #[.slice a n cap, .string x] w (FieldPost w (dropF [x] l)) := by
  obtain ⟨i0, hi, hz0, hz1, hz2⟩ := info_parts fieldInfo
  have HIN := Lib.hid hin
  have HN := Lib.hid hN
  have HSM := Lib.hid hsm
  have hle2 : n ≤ 1000000 := by omega
  clear hin hN hsm hle
  go_enter Tryd.func32, Tryd.ntmps32
  go_wp2
  go_loopw [5, 6] (fun v i wr => ∃ (k : Nat) (r : Fs), k ≤ n ∧ i = .int .i64 k ∧ Hid (dropF [x] (l.take k) = r) ∧ r.length ≤ k ∧ wr.ownsRow w.heap.size 48 2 v r.length (fieldCells r) ∧ Below w.heap.size w wr) (fun _ i _ => n - (intOf i).toNat)
  case atStart => exact ⟨0, [], Nat.zero_le _, rfl, Lib.hid rfl, Nat.le_refl _, World.ownsRow_nil _ _ _ _, Below.refl _ _⟩
  case round =>
    obtain ⟨k, r, hk, rfl, HA, hrl, hown, hb⟩ := hrel
    by_cases hlt : k < n
    · have hlt2 : k < l.length := by have := HN.out; omega
      obtain ⟨b, off, rfl, hbl, hc1, hc2⟩ := HIN.out k hlt2
      have hs1 := HSM.out k hlt2
      have x0 := (hb.cell (p := ⟨b, off + k * 2, none⟩) hbl).trans hc1
      obtain ⟨nm, vl, hf⟩ : ∃ nm vl, l[k] = (nm, vl) := ⟨_, _, rfl⟩
      have HF := Lib.hid hf
      simp only [hf] at x0 hc1 hc2 hs1
      have HC1 := Lib.hid hc1
      have HC2 := Lib.hid hc2
      obtain ⟨t, ht⟩ : ∃ t, sameF nm.data.toList x.data.toList = t := ⟨_, rfl⟩
      have HT := Lib.hid ht
      have HIN1 := Lib.hid (inNames_one x nm)
      have HTN : Hid (inNames [x] nm = t) := Lib.hid (by rw [HIN1.out]; exact ht)
      have i1 : (k : Int) < (n : Int) := by omega
      clear hc1 hc2 hf ht HIN1
      go_wp2_with fail
      refine (refSame_any nm x _ hs1.1 hx).mono ?_
      rw [HT.out]
      rintro e w1 ⟨rfl, hb1⟩
      have hown1 := ownsRow_below hown hb1
      replace hb1 := hb.trans (hb1.mono hb.size)
      have hsz := hb1.size
      clear x0 hown hb
      cases t with
      | true =>
        have HG := Lib.hid (show dropF [x] (l.take (k + 1)) = r from by rw [dropF_yes hlt2 (by rw [HF.out]; exact HTN.out), HA.out])
        go_wp2
        go_roundw
        case rel => exact ⟨k + 1, r, by omega, by go_num, HG, by omega, hown1, hb1⟩
        case measure => simp [intOf]; omega
      | false =>
        have HG := Lib.hid (show dropF [x] (l.take (k + 1)) = r ++ [(nm, vl)] from by rw [dropF_no hlt2 (by rw [HF.out]; exact HTN.out), HA.out, HF.out])
        have y0 := (hb1.cell (p := ⟨b, off + k * 2, none⟩) hbl).trans HC1.out
        have y1 := (hb1.cell (p := ⟨b, off + k * 2 + 1, none⟩) hbl).trans HC2.out
        go_wp2_with (at_builtin; refine wpList_append_own _ rfl _ _ 25 rfl w.heap.size 48 i0 (.agg #[.string ⟨#[]⟩, .string ⟨#[]⟩]) 2 32 Tryd.underlying25 hi hz0 hz1 hz2 rfl (by decide) _ _ _ rfl (hown1.alloc _) ⟨w1.heap.size, 0, none⟩ 1 1 [.string nm, .string vl] rfl rfl ?c1U ?c2U ?c3U ?c4U ?c5U ?_)
        case c1U =>
          intro j u hj
          match j, hj with
          | 0, hj => simp at hj; subst hj; simp [Addr.add]
          | 1, hj => simp at hj; subst hj; simp [Addr.add]
        case c2U => intro u hu; simp at hu; rcases hu with rfl | rfl <;> rfl
        case c3U => unfold maxLen; omega
        case c4U => omega
        case c5U => simp; omega
        intro v' w4 hown4 hgrow _
        have hb4 : Below w.heap.size w w4 := (hb1.alloc hsz _).grown hgrow (by simp; omega) (fun k hk => (hown1.lt k hk).1)
        clear hgrow hown1
        go_wp2
        go_roundw
        case rel =>
          refine ⟨k + 1, r ++ [(nm, vl)], by omega, by go_num, HG, by simp; omega, ?_, hb4⟩
          rw [fieldCells_snoc]; simpa using hown4
        case measure => simp [intOf]; omega
    · have HG := Lib.hid (show dropF [x] l = r from by have := HA.out; rwa [List.take_of_length_le (by have := HN.out; omega)] at this)
      go_wp2
      go_ret
      rw [HG.out]
      exact ⟨_, rfl, hown, hb⟩
set_option maxHeartbeats 1000000 in
theorem refSet_any (l : Fs) (x y : ByteArray) (a : Option Addr) (cap n : Nat) (w : World) (hin : FieldsIn w.heap.size w a l) (hN : n = l.length) (hsm : SmallF l) (hle : l.length ≤ 1000000) (hx : x.size ≤ 140737488351232) :
    Calls Tryd.prog 34 #[.slice a n cap, .string x, .string y] w (FieldPost w (setF x y l)) := by
  obtain ⟨i0, hi, hz0, hz1, hz2⟩ := info_parts fieldInfo
  have HD := Lib.hid (refDrop_any l x a cap n w hin hN hsm hle hx)
  have hdl := dropF_len [x] l
  have HL := Lib.hid hdl
  have hle2 : (dropF [x] l).length ≤ 1000000 := by omega
  clear hin hN hsm hdl
  go_enter Tryd.func34, Tryd.ntmps34
  go_wp2_with fail
  refine HD.out.mono ?_
  obtain ⟨r, hr⟩ : ∃ r, dropF [x] l = r := ⟨_, rfl⟩
  have HR := Lib.hid (show setF x y l = r ++ [(x, y)] from by unfold setF; rw [hr])
  rw [hr] at hle2 ⊢
  rintro e w1 ⟨v, rfl, hown, hb1⟩
  have hsz := hb1.size
  clear hr HL HD
  go_wp2_with (at_builtin; refine wpList_append_own _ rfl _ _ 25 rfl w.heap.size 48 i0 (.agg #[.string ⟨#[]⟩, .string ⟨#[]⟩]) 2 32 Tryd.underlying25 hi hz0 hz1 hz2 rfl (by decide) _ _ _ rfl (hown.alloc _) ⟨w1.heap.size, 0, none⟩ 1 1 [.string x, .string y] rfl rfl ?c1U ?c2U ?c3U ?c4U ?c5U ?_)
  case c1U =>
    intro j u hj
    match j, hj with
    | 0, hj => simp at hj; subst hj; simp [Addr.add]
    | 1, hj => simp at hj; subst hj; simp [Addr.add]
  case c2U => intro u hu; simp at hu; rcases hu with rfl | rfl <;> rfl
  case c3U => unfold maxLen; omega
  case c4U => omega
  case c5U => simp; omega
  intro v' w4 hown4 hgrow _
  have hb4 : Below w.heap.size w w4 := (hb1.alloc hsz _).grown hgrow (by simp; omega) (fun k hk => (hown.lt k hk).1)
  clear hgrow hown
  go_wp2
  go_ret
  rw [HR.out]
  refine ⟨_, rfl, ?_, hb4⟩
  rw [fieldCells_snoc]; simpa using hown4
set_option maxHeartbeats 4000000 in
theorem refLines_any (l : Fs) (a : Option Addr) (cap n : Nat) (w : World) (hin : FieldsIn w.heap.size w a l) (hN : n = l.length) (hle : l.length ≤ 1000000) (hsz : ∀ j (h : j < l.length), l[j].1.size ≤ 1000000 ∧ l[j].2.size ≤ 1000000) :
    Calls Tryd.prog 36 #[.slice a n cap] w fun e w' => e = .returned (.string ⟨(linesF l).toArray⟩) ∧ Below w.heap.size w w' := by
  have HIN := Lib.hid hin
  have HN := Lib.hid hN
  have HSZ := Lib.hid hsz
  have hle2 : n ≤ 1000000 := by omega
  clear hin hN hle hsz
  go_enter Tryd.func36, Tryd.ntmps36
  go_wp2
  go_loopw [3, 4] (fun v i wr => ∃ (k : Nat) (s : ByteArray), k ≤ n ∧ i = .int .i64 k ∧ v = .string s ∧ s.size ≤ k * 2000004 ∧ Hid (s.data.toList = linesF (l.take k)) ∧ ∃ m, Hid (wr = w.drewN m)) (fun _ i _ => n - (intOf i).toNat)
  case atStart => exact ⟨0, _, Nat.zero_le _, rfl, rfl, Nat.zero_le _, Lib.hid rfl, 0, Lib.hid rfl⟩
  case round =>
    obtain ⟨k, s, hk, rfl, rfl, hss, HS, m, HM⟩ := hrel
    by_cases hlt : k < n
    · have hlt2 : k < l.length := by have := HN.out; omega
      obtain ⟨b, off, rfl, hbl, hc1, hc2⟩ := HIN.out k hlt2
      obtain ⟨nm, vl, hf⟩ : ∃ nm vl, l[k] = (nm, vl) := ⟨_, _, rfl⟩
      simp only [hf] at hc1 hc2
      have x0 : wr.cell? ⟨b, off + k * 2, none⟩ = some (.string nm) := by rw [HM.out]; exact hc1
      have x1 : wr.cell? ⟨b, off + k * 2 + 1, none⟩ = some (.string vl) := by rw [HM.out]; exact hc2
      have i1 : (k : Int) < (n : Int) := by omega
      have hs1 := HSZ.out k hlt2
      simp only [hf] at hs1
      obtain ⟨A1, hA1⟩ : ∃ A, s ++ nm = A := ⟨_, rfl⟩
      obtain ⟨A2, hA2⟩ : ∃ A, A1 ++ ⟨#[58, 32]⟩ = A := ⟨_, rfl⟩
      obtain ⟨A3, hA3⟩ : ∃ A, A2 ++ vl = A := ⟨_, rfl⟩
      obtain ⟨s', hs'⟩ : ∃ A, A3 ++ ⟨#[13, 10]⟩ = A := ⟨_, rfl⟩
      have z2 : (⟨#[58, 32]⟩ : ByteArray).size = 2 := rfl
      have z4 : (⟨#[13, 10]⟩ : ByteArray).size = 2 := rfl
      have zA1 : A1.size = s.size + nm.size := by rw [← hA1, ByteArray.size_append]
      have zA2 : A2.size = A1.size + 2 := by rw [← hA2, ByteArray.size_append, z2]
      have zA3 : A3.size = A2.size + vl.size := by rw [← hA3, ByteArray.size_append]
      have zs' : s'.size = A3.size + 2 := by rw [← hs', ByteArray.size_append, z4]
      have r1 : ∀ w, (Op.stringOp .add s nm).run Tryd.prog w = .ok (.string A1) w := fun w => hA1 ▸ run_string_add_sum w _ _ (by omega)
      have r2 : ∀ w, (Op.stringOp .add A1 ⟨#[58, 32]⟩).run Tryd.prog w = .ok (.string A2) w := fun w => hA2 ▸ run_string_add_sum w _ _ (by omega)
      have r3 : ∀ w, (Op.stringOp .add A2 vl).run Tryd.prog w = .ok (.string A3) w := fun w => hA3 ▸ run_string_add_sum w _ _ (by omega)
      have r4 : ∀ w, (Op.stringOp .add A3 ⟨#[13, 10]⟩).run Tryd.prog w = .ok (.string s') w := fun w => hs' ▸ run_string_add_sum w _ _ (by omega)
      have d1 : ¬ (9223372036854775807 < s.size + nm.size) := by omega
      have d2 : ¬ (9223372036854775807 < A1.size + (⟨#[58, 32]⟩ : ByteArray).size) := by omega
      have d3 : ¬ (9223372036854775807 < A2.size + vl.size) := by omega
      have d4 : ¬ (9223372036854775807 < A3.size + (⟨#[13, 10]⟩ : ByteArray).size) := by omega
      have HS' : Hid (s'.data.toList = linesF (l.take (k + 1))) := Lib.hid (by
        rw [linesF_take hlt2, ← HS.out, ← hs', ← hA3, ← hA2, ← hA1, hf]
        unfold lineF
        simp [ByteArray.data_append])
      have hss' : s'.size ≤ (k + 1) * 2000004 := by omega
      have HSS' := Lib.hid hss'
      clear z2 z4 zA1 zA2 zA3 zs' hss'
      clear hc1 hc2 hf
      go_wp2
      go_quiet (fail)
      go_wp2
      go_roundw
      case rel => exact ⟨k + 1, s', by omega, by go_num, rfl, HSS'.out, HS', _, Lib.hid (by rw [HM.out, World.drewN_drewN])⟩
      case measure => simp [intOf]; omega
    · have HE : Hid (s = ⟨(linesF l).toArray⟩) := Lib.hid (by
        have h := HS.out
        rw [List.take_of_length_le (by have := HN.out; omega)] at h
        exact data_as s h)
      go_wp2
      go_ret
      rw [HM.out]
      exact ⟨congrArg (fun x => Ending.returned (Value.string x)) HE.out, below_drewN (Below.refl _ _) m⟩
end Go.Proofs.YtckhjhgddnjfpaaDoor
