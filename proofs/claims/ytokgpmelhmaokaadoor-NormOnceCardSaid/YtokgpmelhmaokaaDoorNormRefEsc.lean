/-
  The reference's Escapes answers what the mathematics says.
-/
import Derived.Test.YtokgpmelhmaokaaDoorNormEsc
import Derived.Test.YtokgpmelhmaokaaDoorRow8
import Derived.Deep.RegionWith
import Derived.Deep.AppendLies
namespace Go.Proofs.YtokgpmelhmaokaaDoor
open Go.RowKit HeadMath NormMath

theorem hexI_some {c : UInt8} (h : hexB c = true) : hexI c = (hexN c : Int) := by unfold hexI; rw [hexB_some h]
theorem hexI_none {c : UInt8} (h : hexB c = false) : hexI c = -1 := by unfold hexI; rw [hexB_none h]
theorem row_below {w w' : World} (h : Spares (atLeast w.heap.size) w w') : Below w.heap.size w w' := h.below (Nat.le_refl _) (fun _ hk h => absurd hk (Nat.not_lt.2 h))
theorem refHex_quiet (c : UInt8) (w : World) : Calls Tryd.prog 24 #[.int .u8 c.toNat] w fun e w' => e = .returned (.int .i64 (hexI c)) ∧ w' = w := (refHex_any c w).mono fun _ _ h => ⟨h.1, h.2.symm⟩
def hexDigits : ByteArray := { data := #[48, 49, 50, 51, 52, 53, 54, 55, 56, 57, 65, 66, 67, 68, 69, 70] }
theorem hexDigits_at (a : Nat) (h : a < hexDigits.size) : hexDigits[a] = digit a := by
  have H : ∀ a : Fin 16, hexDigits[a.1]'(by have := a.2; exact this) = digit a.1 := by decide
  exact H ⟨a, h⟩

theorem and_nat (a b : Nat) (ha : a < 16) (hb : b < 16) : Go.bits .and .u8 (16 * (a : Int) + (b : Int)) 15 = (b : Int) := by
  have H : ∀ a : Fin 16, ∀ b : Fin 16, Go.bits .and .u8 (16 * ((a.1 : Nat) : Int) + ((b.1 : Nat) : Int)) 15 = ((b.1 : Nat) : Int) := by decide
  exact H ⟨a, ha⟩ ⟨b, hb⟩
theorem three_new (w : World) (t : TypeId) (a b c : Value) : ∀ j u, [a, b, c][j]? = some u → (w.alloc (.cells #[a, b, c] t)).cell? ((⟨w.heap.size, 0, none⟩ : Addr).add j) = some u := by
  intro j u hj
  match j, hj with
  | 0, hj => simp at hj; subst hj; simp [Addr.add]
  | 1, hj => simp at hj; subst hj; simp [Addr.add]
  | 2, hj => simp at hj; subst hj; simp [Addr.add]
  | j + 3, hj => simp at hj

set_option maxHeartbeats 4000000 in
theorem refEscapes_any (s : ByteArray) (w : World) (hs : s.size ≤ 1000000000000) :
    Calls Tryd.prog 9 #[.string s] w fun e w' => e = .returned (escV s.data.toList) ∧ Below w.heap.size w w' := by
  have HZ := Lib.hid (size_list s)
  go_enter Tryd.func9, Tryd.ntmps9
  go_wp2
  go_loopw [4, 5] (fun v i wr => ∃ (k : Nat) (acc : List UInt8), k ≤ s.size ∧ i = .int .i64 k ∧ Hid (EscAt s.data.toList k acc) ∧ Hid (Row8 w.heap.size wr v acc) ∧ Hid (Spares (atLeast w.heap.size) w wr))
    (fun _ i _ => s.size - (intOf i).toNat)
  case atStart => exact ⟨0, [], Nat.zero_le _, rfl, Lib.hid (EscAt.zero _), Lib.hid (row8_nil _ _), Lib.hid (Spares.refl _ _)⟩
  case round =>
    obtain ⟨k, acc, hk, rfl, HA, HR, HS⟩ := hrel
    have HAL := Lib.hid HA.out.2
    have hB1 := HS.out.size
    by_cases hlt : k < s.size
    · have HLEN := Lib.hid (show acc.length + 1 ≤ 140737488355328 by have := HAL.out; omega)
      by_cases hc : s[k] = 37
      · have q : ((s[k].toNat : Int) == 37) = true := (u8_beq_lit _ 37 (by decide)).trans (by simpa using hc)
        have HC := Lib.hid hc
        clear hc
        by_cases h2 : k + 2 < s.size
        · obtain ⟨x, hx⟩ : ∃ x, s[k + 1] = x := ⟨_, rfl⟩
          obtain ⟨y, hy⟩ : ∃ y, s[k + 2] = y := ⟨_, rfl⟩
          have HX := Lib.hid hx
          have HY := Lib.hid hy
          have cx : ∀ w : World, Calls Tryd.prog 24 #[.int .u8 x.toNat] w fun e w' => e = .returned (.int .i64 (hexI x)) ∧ w' = w := fun w => (refHex_any x w).mono fun _ _ h => ⟨h.1, h.2.symm⟩
          have cy : ∀ w : World, Calls Tryd.prog 24 #[.int .u8 y.toNat] w fun e w' => e = .returned (.int .i64 (hexI y)) ∧ w' = w := fun w => (refHex_any y w).mono fun _ _ h => ⟨h.1, h.2.symm⟩
          cases hbx : hexB x with
          | false =>
            have HE := Lib.hid (show escV s.data.toList = .tuple #[.string ⟨#[]⟩, .bool false] by
              unfold escV; rw [HA.out.bad (by rw [HZ.out]; exact h2) HC.out (Or.inl (by rw [list_at s (k + 1) (by omega), HX.out]; exact hexB_none hbx))])
            have HBL := Lib.hid (row_below HS.out)
            rw [hexI_none hbx] at cx
            clear hbx cy
            go_wp2_with fail
            refine (cx _).mono ?_
            rintro e w1 ⟨rfl, rfl⟩
            go_wp2
            go_ret2
            rw [HE.out]
            exact ⟨rfl, HBL.out⟩
          | true =>
            have HVX := Lib.hid (hexB_some hbx)
            rw [hexI_some hbx] at cx
            cases hby : hexB y with
            | false =>
              have HE := Lib.hid (show escV s.data.toList = .tuple #[.string ⟨#[]⟩, .bool false] by
                unfold escV; rw [HA.out.bad (by rw [HZ.out]; exact h2) HC.out (Or.inr (by rw [list_at s (k + 2) (by omega), HY.out]; exact hexB_none hby))])
              have HBL := Lib.hid (row_below HS.out)
              rw [hexI_none hby] at cy
              clear hbx hby
              generalize hexN x = a at *
              go_wp2_with fail
              refine (cx _).mono ?_
              rintro e w1 ⟨rfl, rfl⟩
              go_wp2_with fail
              refine (cy _).mono ?_
              rintro e w1 ⟨rfl, rfl⟩
              go_wp2
              go_ret2
              rw [HE.out]
              exact ⟨rfl, HBL.out⟩
            | true =>
              have HVY := Lib.hid (hexB_some hby)
              have hxa := hexI_some hbx
              have hyb := hexI_some hby
              rw [hexI_some hby] at cy
              have ha := hexN_lt x
              have hb := hexN_lt y
              have HN := Lib.hid (HA.out.pair (a := hexN x) (b := hexN y) (by rw [HZ.out]; exact h2) HC.out (by rw [list_at s (k + 1) (by omega), HX.out]; exact HVX.out) (by rw [list_at s (k + 2) (by omega), HY.out]; exact HVY.out))
              clear HVX HVY hbx hby HA
              generalize hexN x = a at *
              generalize hexN y = b at *
              obtain ⟨v, hv⟩ : ∃ v, UInt8.ofNat (16 * a + b) = v := ⟨_, rfl⟩
              have hvn : v.toNat = 16 * a + b := by rw [← hv]; simp; omega
              rw [hv] at HN
              clear hv
              have HVN := Lib.hid hvn
              clear hvn
              go_wp2_with fail
              refine (cx _).mono ?_
              rintro e w1 ⟨rfl, rfl⟩
              go_wp2_with fail
              refine (cy _).mono ?_
              rintro e w1 ⟨rfl, rfl⟩
              clear cx cy
              go_wp2
              go_quiet ((go_at_call 24; exact Calls.quiet_of_same (refHex_quiet _ _)))
              obtain ⟨wo, hwo⟩ : ∃ wo, w1.drewN nq = wo := ⟨_, rfl⟩
              have HRo : Hid (Row8 w.heap.size wo u4 acc) := Lib.hid (by rw [← hwo]; exact HR.out.spares (F := nowhere) ((Spares.refl _ _).drewN nq) (fun _ _ h => h))
              have HSo : Hid (Spares (atLeast w.heap.size) w wo) := Lib.hid (by rw [← hwo]; exact HS.out.drewN nq)
              have hBo := HSo.out.size
              rw [hwo]
              have hvi : 16 * (a : Int) + (b : Int) = (v.toNat : Int) := by have := HVN.out; omega
              rw [hvi]
              clear hwo HR HS hB1 hx HX hy HY hxa hyb
              have cP := refPlain_any v
              cases hp : plainB v with
              | true =>
                have HO := Lib.hid (show escOne v = [v] by unfold escOne; rw [if_pos hp])
                rw [hp] at cP
                clear hp hvi
                go_wp2_with fail
                refine (cP _).mono ?_
                rintro e w2 ⟨rfl, rfl⟩
                go_wp2_with ((with_reducible show wpList _ _ _ (⟨some 62, _, _, _, _, _⟩ :: _) _ _); refine wpList_row_one rfl _ _ rfl w.heap.size _ acc rfl HRo.out v _ rfl rfl HLEN.out hBo ?_; intro v9 w9 hr9 hs9; have HR9 := Lib.hid hr9; have HS9 := Lib.hid hs9; clear hr9 hs9)
                go_roundw
                case rel =>
                  exact ⟨k + 3, acc ++ [v], by omega, by go_num, by rw [← HO.out]; exact HN, HR9, Lib.hid (HSo.out.trans HS9.out)⟩
                case measure => simp [intOf]; omega
              | false =>
                have h16a : a < ({ data := #[48, 49, 50, 51, 52, 53, 54, 55, 56, 57, 65, 66, 67, 68, 69, 70] } : ByteArray).size := ha
                have h16b : b < ({ data := #[48, 49, 50, 51, 52, 53, 54, 55, 56, 57, 65, 66, 67, 68, 69, 70] } : ByteArray).size := hb
                have HO : Hid (escOne v = [37, digit a, digit b]) := Lib.hid (by
                  unfold escOne; rw [if_neg (by rw [hp]; simp), HVN.out, show (16 * a + b) / 16 = a by omega, show (16 * a + b) % 16 = b by omega])
                obtain ⟨x, hx⟩ : ∃ x, ({ data := #[48, 49, 50, 51, 52, 53, 54, 55, 56, 57, 65, 66, 67, 68, 69, 70] } : ByteArray)[a] = x := ⟨_, rfl⟩
                obtain ⟨y, hy⟩ : ∃ y, ({ data := #[48, 49, 50, 51, 52, 53, 54, 55, 56, 57, 65, 66, 67, 68, 69, 70] } : ByteArray)[b] = y := ⟨_, rfl⟩
                have hxd : digit a = x := by rw [← hx]; exact (hexDigits_at a ha).symm
                have hyd : digit b = y := by rw [← hy]; exact (hexDigits_at b hb).symm
                rw [hxd, hyd] at HO
                have ia : (a : Int) < 16 := by omega
                have ib : (b : Int) < 16 := by omega
                have e1 : (v.toNat : Int) / 16 = (a : Int) := by rw [← hvi]; omega
                have e2 : Go.bits .and .u8 (v.toNat : Int) 15 = (b : Int) := by rw [← hvi]; exact and_nat a b ha hb
                rw [hp] at cP
                clear hp hvi hxd hyd HVN
                have HRow := Lib.hid (show (wo.alloc (.cells #[.int .u8 37, .int .u8 (x.toNat : Int), .int .u8 (y.toNat : Int)] 5)).drew.ownsRow w.heap.size 5 1 u4 acc.length (Lib.byteCells acc) from (show (wo.alloc (.cells #[.int .u8 37, .int .u8 (x.toNat : Int), .int .u8 (y.toNat : Int)] 5)).ownsRow w.heap.size 5 1 u4 acc.length (Lib.byteCells acc) from (show wo.ownsRow w.heap.size 5 1 u4 acc.length (Lib.byteCells acc) from HRo.out).alloc _))
                have HC3 : Hid (∀ j u, [Value.int .u8 37, .int .u8 (x.toNat : Int), .int .u8 (y.toNat : Int)][j]? = some u → (wo.alloc (.cells #[.int .u8 37, .int .u8 (x.toNat : Int), .int .u8 (y.toNat : Int)] 5)).drew.cell? ((⟨wo.heap.size, 0, none⟩ : Addr).add j) = some u) := Lib.hid (three_new wo 5 _ _ _)
                have HSP := Lib.hid (show Spares (atLeast w.heap.size) w (wo.alloc (.cells #[.int .u8 37, .int .u8 (x.toNat : Int), .int .u8 (y.toNat : Int)] 5)).drew from (HSo.out.alloc _).drew)
                have HL1 := Lib.hid (show acc.length + 3 ≤ maxLen by have := HAL.out; unfold maxLen; omega)
                have HL2 := Lib.hid (show (acc.length + 3) * 1 ≤ 140737488355328 by have := HAL.out; omega)
                have HLT := Lib.hid (show ∀ g, u4.ownBlock = some g → w.heap.size ≤ g from fun g hg => (HRo.out.lt g hg).1)
                obtain ⟨i0, hi, hz0, hz1, hz2⟩ := info_parts byteInfo
                go_wp2_with fail
                refine (cP _).mono ?_
                rintro e w2 ⟨rfl, rfl⟩
                clear cP
                go_wp2
                go_region_law
                  (refine step_append_lies _ (by rfl) _ _ _ (by rfl) w.heap.size 5 i0 _ 1 1 Tryd.underlying29 hi hz0 hz1 hz2 rfl (by decide) u4 acc.length (Lib.byteCells acc) (by rfl)
                         HRow.out ⟨wo.heap.size, 0, none⟩ 3 3 [.int .u8 37, .int .u8 (x.toNat : Int), .int .u8 (y.toNat : Int)] (by rfl) (by rfl) HC3.out (by simp [Value.oneCell']) (by decide) HL1.out HL2.out HSP.out.size _ rfl ?_
                   intro gg cg w4 hown' hgrow _ _)
                all_goals
                  have HR4 : Hid (Row8 w.heap.size w4 (.slice (some ⟨gg, 0, none⟩) (acc.length + 3) cg) (acc ++ [37, x, y])) := Lib.hid (by unfold Row8; rw [List.length_append, byteCells_app]; simpa [Lib.byteCells] using hown')
                  have HS4 : Hid (Spares (atLeast w.heap.size) w w4) := Lib.hid (HSP.out.grown hgrow (fun g hg => .inl (HLT.out g hg)))
                  clear hown' hgrow
                  go_wp2
                  go_roundw
                  case rel => exact ⟨k + 3, acc ++ [37, x, y], by omega, by go_num, by rw [← HO.out]; exact HN, HR4, HS4⟩
                  case measure => simp [intOf]; omega
        · have HE := Lib.hid (show escV s.data.toList = .tuple #[.string ⟨#[]⟩, .bool false] by
            unfold escV; rw [HA.out.short (by rw [HZ.out]; exact hlt) HC.out (by rw [HZ.out]; omega)])
          have HBL := Lib.hid (row_below HS.out)
          go_wp2
          go_ret2
          rw [HE.out]
          exact ⟨rfl, HBL.out⟩
      · have q : ((s[k].toNat : Int) == 37) = false := (u8_beq_lit _ 37 (by decide)).trans (by simpa using hc)
        have HN := Lib.hid (HA.out.byte (by rw [HZ.out]; exact hlt) hc)
        have HN2 : Hid (EscAt s.data.toList (k + 1) (acc ++ [s[k]])) := HN
        obtain ⟨x, hx⟩ : ∃ x, s[k] = x := ⟨_, rfl⟩
        rw [hx] at q HN2
        clear hc HN
        go_wp2_with ((with_reducible show wpList _ _ _ (⟨some 22, _, _, _, _, _⟩ :: _) _ _); refine wpList_row_one rfl _ _ rfl w.heap.size _ acc rfl HR.out x _ rfl rfl HLEN.out hB1 ?_; intro v9 w9 hr9 hs9; have HR9 := Lib.hid hr9; have HS9 := Lib.hid hs9; clear hr9 hs9)
        go_roundw
        case rel =>
          exact ⟨k + 1, acc ++ [x], by omega, by go_num, HN2, HR9, Lib.hid (HS.out.trans HS9.out)⟩
        case measure => simp [intOf]; omega
    · have HE := Lib.hid (show escV s.data.toList = .tuple #[.string ⟨acc.toArray⟩, .bool true] by
        unfold escV; rw [HA.out.last (by rw [HZ.out]; omega)])
      obtain ⟨a, c, rfl, hat, hnil, hcap⟩ := HR.out.shape
      have hcv := conv_bytes hat c
      have HBL := Lib.hid (row_below HS.out)
      clear hat hnil hcap
      go_wp2
      go_ret2
      rw [HE.out]
      exact ⟨rfl, HBL.out⟩
end Go.Proofs.YtokgpmelhmaokaaDoor
