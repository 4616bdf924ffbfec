/-
  Lines read as fields, in the reference.
-/
import Derived.Deep.RegionLaw
import Derived.Deep.AppendLies
import Derived.Test.YtjpmofnnjdhamaaGreatDoorMg11
namespace Go.Proofs.YtjpmofnnjdhamaaGreatDoor.HeadS
open Go.RowKit HeadMath

theorem colon_is {s : ByteArray} {k : Nat} (hk : k < s.size) (h : s[k] = 58) (hb : ∀ j (h : j < s.size), j < k → s[j] ≠ 58) : colonAt s = (k : Int) := by
  have hl : s.data.toList[k]? = some 58 := by
    rw [List.getElem?_eq_getElem (by rw [size_list]; exact hk)]
    exact congrArg some h
  have hge := Lib.indexByte_ge s.data.toList 58
  unfold colonAt
  rcases (show Lib.indexByte s.data.toList 58 < 0 ∨ 0 ≤ Lib.indexByte s.data.toList 58 by omega) with h0 | h0
  · exact absurd hl (Lib.indexByte_none (by omega) k)
  · obtain ⟨o, ho⟩ : ∃ o : Nat, Lib.indexByte s.data.toList 58 = o := ⟨(Lib.indexByte s.data.toList 58).toNat, by omega⟩
    obtain ⟨h1, h2⟩ := Lib.indexByte_some ho
    rw [ho]
    rcases Nat.lt_trichotomy o k with h3 | h3 | h3
    · have ho2 : o < s.size := by omega
      rw [List.getElem?_eq_getElem (by rw [size_list]; exact ho2)] at h1
      exact absurd (Option.some.inj h1) (hb o ho2 h3)
    · rw [h3]
    · exact absurd hl (h2 k h3)
theorem colon_no {s : ByteArray} (hb : ∀ j (h : j < s.size), s[j] ≠ 58) : colonAt s < 0 := by
  have hge := Lib.indexByte_ge s.data.toList 58
  unfold colonAt
  rcases (show Lib.indexByte s.data.toList 58 < 0 ∨ 0 ≤ Lib.indexByte s.data.toList 58 by omega) with h0 | h0
  · exact h0
  · obtain ⟨o, ho⟩ : ∃ o : Nat, Lib.indexByte s.data.toList 58 = o := ⟨(Lib.indexByte s.data.toList 58).toNat, by omega⟩
    obtain ⟨h1, h2⟩ := Lib.indexByte_some ho
    have ho2 : o < s.size := by
      rcases Nat.lt_or_ge o s.data.toList.length with h3 | h3
      · rwa [size_list] at h3
      · rw [List.getElem?_eq_none h3] at h1; cases h1
    rw [List.getElem?_eq_getElem (by rw [size_list]; exact ho2)] at h1
    exact absurd (Option.some.inj h1) (hb o ho2)
theorem refTrim_named {s vl : ByteArray} (w : World) (hs : s.size ≤ 140737488351232) (h : (⟨(trimF s.data.toList).toArray⟩ : ByteArray) = vl) :
    Calls Tryz.prog 81 #[.string s] w fun e w' => e = .returned (.string vl) ∧ w = w' := by
  subst h
  exact refTrim_any s w hs
theorem fieldNew (w : World) (x y : ByteArray) : ∀ j u, [Value.string x, Value.string y][j]? = some u → (w.alloc (.cells #[.string x, .string y] 59)).cell? ((⟨w.heap.size, 0, none⟩ : Addr).add j) = some u := by
  intro j u hj
  have hB := MBlk.new w 59 #[.string x, .string y] (0, 0)
  match j, hj with
  | 0, hj => simp at hj; subst hj; rw [Go.Addr.add_lit]; exact hB.cell 0
  | 1, hj => simp at hj; subst hj; rw [Go.Addr.add_lit]; exact hB.cell 1
set_option maxRecDepth 100000 in
set_option maxHeartbeats 4000000 in
theorem refParse_any (ls : List ByteArray) (a : Option Addr) (cap n : Nat) (w : World) (hin : StrsIn w.heap.size w a ls) (hN : n = ls.length) (hsm : Small ls) (hle : ls.length ≤ 140737488351232) : Calls Tryz.prog 57 #[.slice a n cap] w (ParsePost w ls) := by
  obtain ⟨i0, hi, hz0, hz1, hz2⟩ := info_parts fieldInfo
  have HIN := Lib.hid hin
  have HN := Lib.hid hN
  have HSM := Lib.hid hsm
  have hle2 : n ≤ 140737488351232 := by omega
  clear hin hN hsm hle
  by_cases hm : (100 : Int) < (n : Int)
  · go_enter Tryz.func57, Tryz.ntmps57
    go_wp2
    go_ret2
    exact ⟨Below.refl _ _, .inl ⟨by have := HN.out; omega, rfl⟩⟩
  have hn100 : n ≤ 100 := by omega
  go_enter Tryz.func57, Tryz.ntmps57
  go_wp2
  go_loopw [4, 5] (fun v i wr => ∃ (k : Nat) (fs : List (ByteArray × ByteArray)), k ≤ n ∧ i = .int .i64 k ∧ Hid (parseF (ls.take k) = some fs) ∧ fs.length = k ∧
        wr.ownsRow w.heap.size 59 2 v fs.length (fieldCells fs) ∧ Below w.heap.size w wr)
      (fun _ i _ => n - (intOf i).toNat)
  case atStart => exact ⟨0, [], Nat.zero_le _, rfl, Lib.hid rfl, rfl, World.ownsRow_nil _ _ _ _, Below.refl _ _⟩
  case round =>
    obtain ⟨k, fs, hk, rfl, HP, hfl, hown, hb⟩ := hrel
    by_cases hlt : k < n
    · have hlt2 : k < ls.length := by have := HN.out; omega
      obtain ⟨b, off, rfl, hbl, hcell⟩ := HIN.out k hlt2
      have hc := (hb.cell (p := ⟨b, off + k, none⟩) hbl).trans hcell
      clear hcell
      have hssz := HSM.out k hlt2
      obtain ⟨s, hsk⟩ : ∃ s, ls[k] = s := ⟨_, rfl⟩
      rw [hsk] at hc hssz
      have HK := Lib.hid hsk
      have i1 : (k : Int) < (n : Int) := by omega
      obtain ⟨wo, hwo⟩ : ∃ wo : World, wo = wr := ⟨_, rfl⟩
      subst hwo
      clear hsk
      go_wp2
      go_loop [7] (fun v => ∃ j : Nat, j ≤ s.size ∧ v = .int .i64 j ∧ Hid (∀ i (h : i < s.size), i < j → s[i] ≠ 58)) (fun v => s.size - (intOf v).toNat)
      case atStart => exact ⟨0, Nat.zero_le _, rfl, Lib.hid (fun i _ h => absurd h (Nat.not_lt_zero _))⟩
      case round =>
        obtain ⟨j, hj, rfl, HA⟩ := hrel
        by_cases hjs : j < s.size
        · have e58 := u8_beq_lit s[j] 58 (by omega)
          by_cases h58 : s[j] = 58
          · have q58 : ((s[j].toNat : Int) == 58) = true := by rw [h58]; rfl
            have q58' : ((s[j].toNat : Int) != 58) = false := by unfold bne; rw [q58]; rfl
            have hci := colon_is hjs h58 (fun i h1 h2 => HA.out i h1 h2)
            have hjs1 : (j : Int) < (s.size : Int) := by omega
            have hjs2 : ((j : Int) == (s.size : Int)) = false := by rw [beq_eq_false_iff_ne]; omega
            obtain ⟨nm, h1⟩ : ∃ nm, s.extract 0 j = nm := ⟨_, rfl⟩
            obtain ⟨rest, h2⟩ : ∃ rest, s.extract (j + 1) s.size = rest := ⟨_, rfl⟩
            obtain ⟨vl, h3⟩ : ∃ vl, (⟨(trimF rest.data.toList).toArray⟩ : ByteArray) = vl := ⟨_, rfl⟩
            have hx1 : nm.size ≤ 140737488351232 := by rw [← h1, extract_size s 0 j (Nat.zero_le _) (by omega)]; omega
            have hx2 : rest.size ≤ 140737488351232 := by rw [← h2, extract_size s (j + 1) s.size (by omega) (Nat.le_refl _)]; omega
            have hx3 : vl.size ≤ 140737488351232 := by rw [← h3]; exact trimSize hx2
            have HF := Lib.hid (fieldOf_named hci h1 h2 h3)
            have H3 := Lib.hid h3
            clear e58 h58 hci h3 HA
            cases ht : tokenF nm.data.toList with
            | false =>
              have HNO := Lib.hid (parseF_none_of hlt2 (by rw [HK.out, HF.out, if_neg]; rintro ⟨q, _⟩; rw [ht] at q; cases q))
              have HT := Lib.hid ht
              clear ht
              go_wp2_with fail
              refine (refToken_any nm _ hx1).mono ?_
              rintro e w3 ⟨rfl, rfl⟩
              rw [HT.out]
              go_wp2
              go_ret2
              exact ⟨hb, .inr (.inl ⟨by have := HN.out; omega, HNO.out, rfl⟩)⟩
            | true =>
              have HT := Lib.hid ht
              clear ht
              cases hv : valueF vl.data.toList with
              | false =>
                have HNO := Lib.hid (parseF_none_of hlt2 (by rw [HK.out, HF.out, if_neg]; rintro ⟨_, q⟩; rw [hv] at q; cases q))
                have HV := Lib.hid hv
                clear hv
                go_wp2_with fail
                refine (refToken_any nm _ hx1).mono ?_
                rintro e w3 ⟨rfl, rfl⟩
                rw [HT.out]
                go_wp2_with fail
                refine (refTrim_named _ hx2 H3.out).mono ?_
                rintro e w3 ⟨rfl, rfl⟩
                go_wp2_with fail
                refine (refValue_any vl _ hx3).mono ?_
                rintro e w3 ⟨rfl, rfl⟩
                rw [HV.out]
                go_wp2
                go_ret2
                exact ⟨hb, .inr (.inl ⟨by have := HN.out; omega, HNO.out, rfl⟩)⟩
              | true =>
                have HG := Lib.hid (parseF_take hlt2 HP.out (by rw [HK.out, HF.out, if_pos ⟨HT.out, hv⟩]))
                have HV := Lib.hid hv
                have hw1 : IntKind.i64.wrap ((j : Int) + 1) = (j : Int) + 1 := IntWalk.i64_in _ (by omega)
                have hw2 : ((j : Int) + 1).toNat = j + 1 := by omega
                have hw3 : (0 : Int) ≤ (j : Int) + 1 := by omega
                have hw4 : (j : Int) + 1 ≤ (s.size : Int) := by omega
                clear hv
                go_wp2_with fail
                refine (refToken_any nm _ hx1).mono ?_
                rintro e w3 ⟨rfl, rfl⟩
                rw [HT.out]
                go_wp2_with fail
                refine (refTrim_named _ hx2 H3.out).mono ?_
                rintro e w3 ⟨rfl, rfl⟩
                go_wp2_with fail
                refine (refValue_any vl _ hx3).mono ?_
                rintro e w3 ⟨rfl, rfl⟩
                rw [HV.out]
                go_wp2
                have HO : Hid ((wo.drew.alloc (.cells #[.string nm, .string vl] 59)).ownsRow w.heap.size 59 2 u4 fs.length (fieldCells fs)) := Lib.hid ((show wo.drew.ownsRow w.heap.size 59 2 u4 fs.length (fieldCells fs) from hown).alloc _)
                have HC : Hid (∀ j u, [Value.string nm, .string vl][j]? = some u → (wo.drew.alloc (.cells #[.string nm, .string vl] 59)).cell? ((⟨wo.heap.size, 0, none⟩ : Addr).add j) = some u) := Lib.hid (fieldNew wo.drew nm vl)
                have HBL := Lib.hid (show Below w.heap.size w (wo.drew.alloc (.cells #[.string nm, .string vl] 59)) from hb.drew.alloc hb.size _)
                have HL1 := Lib.hid (show fs.length + 1 ≤ maxLen by unfold maxLen; omega)
                have HL2 := Lib.hid (show (fs.length + 1) * 32 ≤ 140737488355328 by omega)
                have HSB := Lib.hid (show w.heap.size ≤ (wo.drew.alloc (.cells #[.string nm, .string vl] 59)).heap.size from by have := hb.size; simp; omega)
                have HLT := Lib.hid (show ∀ g, u4.ownBlock = some g → w.heap.size ≤ g from fun g hg => (hown.lt g hg).1)
                clear hown hb hc
                go_region_law
                  (first
                    | (go_simp
                       go_at_call 81
                       refine (refTrim_named _ hx2 H3.out).mono ?_
                       rintro e w3 ⟨rfl, rfl⟩)
                    | (refine step_append_lies _ (by rfl) _ _ _ (by rfl) w.heap.size 59 i0 _ 2 32 Tryz.underlying22 hi hz0 hz1 hz2 rfl (by decide) u4 fs.length (fieldCells fs) (by rfl)
                         HO.out ⟨wo.heap.size, 0, none⟩ 1 1 [.string nm, .string vl] (by rfl) (by rfl) HC.out (by simp [Value.oneCell']) Nat.one_pos HL1.out HL2.out HSB.out (wo.heap.size + 1) (by simp) ?_
                       intro gg cg w4 hown' hgrow _ _))
                have hb4 : Below w.heap.size w w4 := HBL.out.grown hgrow HSB.out (fun g hg => HLT.out g hg)
                clear hgrow HBL HO HC
                go_wp2
                go_roundw
                case rel =>
                  refine ⟨k + 1, fs ++ [(nm, vl)], by omega, by go_num, HG, by simp [hfl], ?_, hb4⟩
                  rw [fieldCells_snoc]; simpa [hfl] using hown'
                case measure => simp [intOf]; omega
          · have q58 : ((s[j].toNat : Int) == 58) = false := e58.trans (by simpa using h58)
            have q58' : ((s[j].toNat : Int) != 58) = true := by unfold bne; rw [q58]; rfl
            have hjs1 : (j : Int) < (s.size : Int) := by omega
            have HN2 := Lib.hid (show ∀ i (h : i < s.size), i < j + 1 → s[i] ≠ 58 from fun i h1 h2 => by
              by_cases hij : i = j
              · subst hij; exact h58
              · exact HA.out i h1 (by omega))
            clear e58 h58
            go_wp2
            go_round
            case rel => exact ⟨j + 1, by omega, by go_num, HN2⟩
            case measure => simp [intOf]; omega
        · obtain rfl : j = s.size := by omega
          have HNO := Lib.hid (parseF_none_of hlt2 (by rw [HK.out]; exact fieldOf_none (colon_no (fun i h => HA.out i h (by omega)))))
          have q : ((s.size : Int) == (s.size : Int)) = true := by simp
          go_wp2
          go_ret2
          exact ⟨hb, .inr (.inl ⟨by have := HN.out; omega, HNO.out, rfl⟩)⟩
    · have HE := Lib.hid (show parseF ls = some fs from by have := HP.out; rwa [List.take_of_length_le (by have := HN.out; omega)] at this)
      go_wp2
      go_ret2
      exact ⟨hb, .inr (.inr ⟨by have := HN.out; omega, fs, _, HE.out, rfl, hown⟩)⟩
end Go.Proofs.YtjpmofnnjdhamaaGreatDoor.HeadS
