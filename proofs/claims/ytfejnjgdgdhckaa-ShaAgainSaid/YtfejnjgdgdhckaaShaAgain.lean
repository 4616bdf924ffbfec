/-
  ShaAgain: the same bytes have the same sum.
-/
import Derived.Test.YtfejnjgdgdhckaaShaSums
import Derived.Deep.QuietTactic
import Derived.Lib.Strings
namespace Go.Proofs.Ytfejnjgdgdhckaa
open Go.RowKit

/-- A key stored in a new variable. -/
theorem key_stored {w W : World} (_ : Spares nowhere w W) (X : List UInt8) (hX : X.length = 32) :
    (W.alloc (.cells (bytesV (List.replicate 32 0)) 25)).there W.heap.size 0 (bytesV X).size ∧
    ((W.alloc (.cells (bytesV (List.replicate 32 0)) 25)).setCells W.heap.size 0 (Lib.byteCells X)).heap[W.heap.size]? = some (.cells (bytesV X) 25 (0, 0)) ∧
    Spares nowhere W ((W.alloc (.cells (bytesV (List.replicate 32 0)) 25)).setCells W.heap.size 0 (Lib.byteCells X)) := by
  have hal := heap_alloc_new W (.cells (bytesV (List.replicate 32 0)) 25)
  refine ⟨there_of hal 0 (bytesV X).size (by rw [bytesV_size, bytesV_size, hX]; simp), ?_, ((Spares.refl nowhere W).alloc _).trans' (spares_setCells (g := W.heap.size) _ _ _ (Spares.refl _ _)) (fun b hb => .inr (Nat.le_of_eq hb.symm))⟩
  have := heap_setCells (g := W.heap.size) (t := 25) (Lib.byteCells X) [] (Lib.byteCells (List.replicate 32 0)) [] _ (by rw [List.append_nil]; exact hal) (by rw [byteCells_len, byteCells_len, hX]; simp)
  rw [List.append_nil] at this
  exact this
theorem key_info (X : List UInt8) (hX : X.length = 32) : (Try.prog.info? 25).map (·.size) = some (bytesV X).size := by rw [bytesV_size, hX]; exact infoKey
theorem quiet_if {P : Program} {ops : Array Oper} {C : World → Prop} {K : Act → Prop} {a : Act} {o : Oper} (v : Value) (hw : Region.wanted o (yielded ops a.tmps) = true) (h : ∀ W, C W → o.quietAt P a C W v) (hk : K (a.put o.dst v)) : if Region.wanted o (yielded ops a.tmps) then o.quiet P a C K else K (a.put o.dst undef) := by
  rw [if_pos hw]; exact ⟨v, h, hk⟩
theorem quiet_if_not {P : Program} {ops : Array Oper} {C : World → Prop} {K : Act → Prop} {a : Act} {o : Oper} (hw : Region.wanted o (yielded ops a.tmps) = false) (hk : K (a.put o.dst undef)) : if Region.wanted o (yielded ops a.tmps) then o.quiet P a C K else K (a.put o.dst undef) := by
  rw [if_neg (by rw [hw]; exact Bool.false_ne_true)]; exact hk
theorem quiet_load {P : Program} {C : World → Prop} {o : Oper} {a : Act} (ty : TypeId) (x : Operand) (ho : o.op = .load ty x) (b off : Nat) (hx : a.eval x = .pointer (some ⟨b, off, none⟩)) (cs : List Value) (d : TypeDesc) (W : World) (hc : W.rangeAt b off cs)
    (hu : P.underlying ty = some d) (hd : d.isRow = true) (hi : (P.info? ty).map (·.size) = some cs.length) : o.quietAt P a C W (.agg cs.toArray) := by
  unfold Oper.quietAt execOp
  simp only [ho, hx, Instr.loadAt, Instr.sureAddr, Sem.run_bind, Sem.run_pure, Result.andThen_ok, run_loadVar_mid W b off ty cs d hc hu hd hi]
  exact ⟨rfl, rfl⟩
set_option maxRecDepth 100000 in
set_option maxHeartbeats 1000000 in
theorem again_any (a : Option Addr) (n c : Nat) (l : List UInt8) (b : Option Addr) (m d : Nat) (k : List UInt8) (w : World) (hl : BytesAt w a l) (hn : n = l.length) (hnc : n ≤ c)
    (hl2 : BytesAt w b k) (hm : m = k.length) (hmd : m ≤ d) (hnil : b = none → d = 0) (_ : a = none → c = 0) (hmax : n < 9223372036854775808) (hmax2 : m < 9223372036854775808) :
    Calls Try.prog 5 #[.slice a n c, .slice b m d] w fun e w' => e = .returned (.bool true) ∧ Spares nowhere w w' := by
  have HL := Lib.hid hl
  have HL2 := Lib.hid hl2
  have HN := Lib.hid hn
  have HM := Lib.hid hm
  have HNIL := Lib.hid hnil
  have HK := Lib.hid (known_any w)
  clear hl hl2 hn hm hnil
  go_enter Try.func5, Try.ntmps5
  go_wp2_with fail
  refine HK.out.mono ?_
  rintro e w1 ⟨rfl, hs1⟩
  have HS1 := Lib.hid hs1
  clear hs1 HK
  by_cases hbig : 1000 < n
  · have i1 : (1000 : Int) < (n : Int) := by omega
    go_wp2
    go_ret
    exact ⟨rfl, HS1.out⟩
  by_cases hbig2 : 1000 < m
  · have i1 : ¬ (1000 : Int) < (n : Int) := by omega
    have i2 : (1000 : Int) < (m : Int) := by omega
    have i3 : (n : Int) ≤ 1000 := by omega
    go_wp2
    go_ret
    exact ⟨rfl, HS1.out⟩
  have i1 : ¬ (1000 : Int) < (n : Int) := by omega
  have i2 : ¬ (1000 : Int) < (m : Int) := by omega
  have i3 : (n : Int) ≤ 1000 := by omega
  have i4 : (m : Int) ≤ 1000 := by omega
  obtain ⟨X, hX⟩ : ∃ X, shaF l = X := ⟨_, rfl⟩
  obtain ⟨Y, hY⟩ : ∃ Y, shaF k = Y := ⟨_, rfl⟩
  have hXl : X.length = 32 := by rw [← hX, shaF_len]
  have hYl : Y.length = 32 := by rw [← hY, shaF_len]
  have HXL := Lib.hid hXl
  have HYL := Lib.hid hYl
  have hA := sum_any a n c l w1 (HL.out.spares HS1.out (fun _ _ _ h => h)) HN.out (by omega) hnc
  rw [hX] at hA
  have HA := Lib.hid hA
  have HX := Lib.hid hX
  have HY := Lib.hid hY
  clear hA hX hY
  go_wp2_with fail
  refine HA.out.mono ?_
  rintro e w2 ⟨rfl, hs2⟩
  have HS2 := Lib.hid (HS1.out.trans hs2)
  obtain ⟨ht2, hg2, hsp2⟩ := key_stored hs2 X HXL.out
  have HI2 := Lib.hid (key_info X HXL.out)
  obtain ⟨w3, hw3⟩ : ∃ w3, (w2.alloc (.cells (bytesV (List.replicate 32 0)) 25)).setCells w2.heap.size 0 (Lib.byteCells X) = w3 := ⟨_, rfl⟩
  have HW3 := Lib.hid hw3
  rw [hw3] at hg2 hsp2
  have HT2 := Lib.hid ht2
  have HG3 := Lib.hid hg2
  have HS3 := Lib.hid (HS2.out.trans hsp2)
  clear hs2 ht2 hg2 hsp2 hw3 hXl hYl HA HS1
  go_upto_region 6 with ((with_reducible show wpList _ _ _ (⟨none, .store 25 _ _, _, _, _, _⟩ :: _) _ _); refine wpList_store_mid rfl 25 (.tmp 5) (.tmp 18) rfl w2.heap.size 0 (bytesV X) rfl rfl HT2.out HI2.out (bytesV_one _) ?_)
  change Code.wp _ _ _ _ ((w2.alloc (.cells (bytesV (List.replicate 32 0)) 25)).setCells w2.heap.size 0 (Lib.byteCells X))
  rw [HW3.out]
  obtain ⟨q5, hq5⟩ : ∃ q, w2.heap.size = q := ⟨_, rfl⟩
  rw [hq5]
  rw [hq5] at HG3
  have hB := sum_any b m d k w3 (HL2.out.spares HS3.out (fun _ _ _ h => h)) HM.out (by omega) hmd
  rw [HY.out] at hB
  have HB := Lib.hid hB
  clear hB HW3 HT2 HI2 HS2 hq5
  go_wp2_with fail
  refine HB.out.mono ?_
  rintro e w4 ⟨rfl, hs4⟩
  have HS4 := Lib.hid (HS3.out.trans hs4)
  have HG4 := Lib.hid (hs4.heap HG3.out (fun h => h))
  obtain ⟨ht4, hg4, hsp4⟩ := key_stored hs4 Y HYL.out
  have HI4 := Lib.hid (key_info Y HYL.out)
  obtain ⟨w5, hw5⟩ : ∃ w5, (w4.alloc (.cells (bytesV (List.replicate 32 0)) 25)).setCells w4.heap.size 0 (Lib.byteCells Y) = w5 := ⟨_, rfl⟩
  have HW5 := Lib.hid hw5
  rw [hw5] at hg4 hsp4
  have HT4 := Lib.hid ht4
  have HG6 := Lib.hid hg4
  have HS5 := Lib.hid (HS4.out.trans hsp4)
  have HG5 := Lib.hid (hsp4.heap HG4.out (fun h => h))
  clear hs4 ht4 hg4 hsp4 hw5 HB HS3 HG3
  go_upto_region 7 with ((with_reducible show wpList _ _ _ (⟨none, .store 25 _ _, _, _, _, _⟩ :: _) _ _); refine wpList_store_mid rfl 25 (.tmp 6) (.tmp 20) rfl w4.heap.size 0 (bytesV Y) rfl rfl HT4.out HI4.out (bytesV_one _) ?_)
  change Code.wp _ _ _ _ ((w4.alloc (.cells (bytesV (List.replicate 32 0)) 25)).setCells w4.heap.size 0 (Lib.byteCells Y))
  rw [HW5.out]
  obtain ⟨q6, hq6⟩ : ∃ q, w4.heap.size = q := ⟨_, rfl⟩
  rw [hq6]
  rw [hq6] at HG6
  clear HW5 HT4 HI4 HS4 HG4 hq6
  obtain ⟨CX, hCX⟩ : ∃ C, Lib.byteCells X = C := ⟨_, rfl⟩
  obtain ⟨CY, hCY⟩ : ∃ C, Lib.byteCells Y = C := ⟨_, rfl⟩
  have hu := Try.underlying25
  have hi1 : (Try.prog.info? 25).map (·.size) = some CX.length := by rw [← hCX, byteCells_len, HXL.out]; exact infoKey
  have hi2 : (Try.prog.info? 25).map (·.size) = some CY.length := by rw [← hCY, byteCells_len, HYL.out]; exact infoKey
  have k1 : ∀ w, (Op.equalIn 10000 25 (.agg (bytesV X)) (.agg CX.toArray)).run Try.prog w = .ok true w := by rw [← hCX]; exact fun w => key_self X HXL.out w
  have k3 : ∀ w, (Op.equalIn 10000 25 (.agg CY.toArray) (.agg (bytesV Y))).run Try.prog w = .ok true w := by rw [← hCY]; exact fun w => key_self Y HYL.out w
  have k2 : l = k → ∀ w, (Op.equalIn 10000 25 (.agg CX.toArray) (.agg CY.toArray)).run Try.prog w = .ok true w := fun e => by
    have h : X = Y := by rw [← HX.out, ← HY.out, e]
    rw [← hCX, ← hCY, h]; exact fun w => key_self Y HYL.out w
  obtain ⟨sa, hsa⟩ : ∃ s : ByteArray, ⟨l.toArray⟩ = s := ⟨_, rfl⟩
  obtain ⟨sb, hsb⟩ : ∃ s : ByteArray, ⟨k.toArray⟩ = s := ⟨_, rfl⟩
  have cv1 : ∀ w', BytesAt w' a l → (convert 22 9 (.slice a n c)).run Try.prog w' = .ok (.string sa) w' := fun w' h => by rw [← hsa, HN.out]; exact conv_bytes h c
  have cv2 : ∀ w', BytesAt w' b k → (convert 22 9 (.slice b m d)).run Try.prog w' = .ok (.string sb) w' := fun w' h => by rw [← hsb, HM.out]; exact conv_bytes h d
  have HU := Lib.hid hu
  have HI1 := Lib.hid hi1
  have HI2 := Lib.hid hi2
  have hcmp : (sa.toList == sb.toList) = decide (l = k) := by
    rw [← hsa, ← hsb, ByteArray.toList_eq, ByteArray.toList_eq]
    by_cases h : l = k
    · subst h; simp
    · simp [h]
  have HKEEP : Hid (∀ W, Spares nowhere w5 W → BytesAt W a l ∧ BytesAt W b k ∧ W.rangeAt q5 0 CX ∧ W.rangeAt q6 0 CY) := Lib.hid (fun W h5 => by
    have h0 := HS5.out.trans h5
    refine ⟨HL.out.spares h0 (fun _ _ _ h => h), HL2.out.spares h0 (fun _ _ _ h => h), ?_, ?_⟩
    · exact range_of (h5.heap HG5.out (fun h => h)) 0 _ (fun j v hj => by rw [Nat.zero_add, bytesV, hCX, List.getElem?_toArray]; exact hj)
    · exact range_of (h5.heap HG6.out (fun h => h)) 0 _ (fun j v hj => by rw [Nat.zero_add, bytesV, hCY, List.getElem?_toArray]; exact hj))
  have hC : ∀ W, BytesAt W a l → Calls Try.prog 8 #[.slice a n c] W fun e w' => e = .returned (.agg (bytesV X)) ∧ Spares nowhere W w' := fun W h => by
    have := sum_any a n c l W h HN.out (by omega) hnc
    rw [HX.out] at this
    exact this
  have HC := Lib.hid hC
  have hD : ∀ W, BytesAt W b k → Calls Try.prog 9 #[.slice b m d] W fun e w' => e = .returned (.agg (bytesV Y)) ∧ Spares nowhere W w' := fun W h => by
    have := refSum_any b m d k W h HM.out (by omega) HNIL.out
    rw [HY.out] at this
    exact this
  have HD := Lib.hid hD
  clear hC hD hCX hCY hsa hsb hu hi1 hi2
  by_cases hlk : l = k
  · rw [decide_eq_true hlk] at hcmp
    have k2 := k2 hlk
    clear hlk
    refine wp_region_quiet (C := fun W => Spares nowhere w5 W) (by kernel_rfl) (by kernel_rfl) (Spares.refl nowhere w5).drew ?_
    refine wpQuiet_step (fun K hK => ?_)
    refine quiet_if (.slice a n c) (by rfl) (fun W hW => ?_) ?_
    · exact ⟨rfl, rfl⟩
    go_simp
    refine hK _ ?_
    clear hK K
    refine wpQuiet_step (fun K hK => ?_)
    refine quiet_if (.agg (bytesV X)) (by rfl) (fun W hW => ?_) ?_
    · go_simp
      refine (HC.out W (HKEEP.out W hW).1).mono ?_
      rintro e W' ⟨rfl, h⟩
      exact ⟨rfl, hW.trans h⟩
    go_simp
    refine hK _ ?_
    clear hK K
    refine wpQuiet_step (fun K hK => ?_)
    refine quiet_if (.agg CX.toArray) (by rfl) (fun W hW => ?_) ?_
    · exact quiet_load 25 (.tmp 5) rfl q5 0 rfl CX _ W (HKEEP.out W hW).2.2.1 HU.out rfl HI1.out
    go_simp
    refine hK _ ?_
    clear hK K
    refine wpQuiet_step (fun K hK => ?_)
    refine quiet_if (.bool true) (by rfl) (fun W hW => ?_) ?_
    · have h1 := k1 W
      go_simp
    go_simp
    refine hK _ ?_
    clear hK K
    refine wpQuiet_step (fun K hK => ?_)
    refine quiet_if (.bool true) (by rfl) (fun W hW => ?_) ?_
    · exact ⟨rfl, rfl⟩
    go_simp
    refine hK _ ?_
    clear hK K
    refine wpQuiet_step (fun K hK => ?_)
    refine quiet_if (.slice a n c) (by rfl) (fun W hW => ?_) ?_
    · exact ⟨rfl, rfl⟩
    go_simp
    refine hK _ ?_
    clear hK K
    refine wpQuiet_step (fun K hK => ?_)
    refine quiet_if (.string sa) (by rfl) (fun W hW => ?_) ?_
    · have h1 := cv1 W (HKEEP.out W hW).1
      go_simp
    go_simp
    refine hK _ ?_
    clear hK K
    refine wpQuiet_step (fun K hK => ?_)
    refine quiet_if (.slice b m d) (by rfl) (fun W hW => ?_) ?_
    · exact ⟨rfl, rfl⟩
    go_simp
    refine hK _ ?_
    clear hK K
    refine wpQuiet_step (fun K hK => ?_)
    refine quiet_if (.string sb) (by rfl) (fun W hW => ?_) ?_
    · have h1 := cv2 W (HKEEP.out W hW).2.1
      go_simp
    go_simp
    refine hK _ ?_
    clear hK K
    refine wpQuiet_step (fun K hK => ?_)
    refine quiet_if (.bool false) (by rfl) (fun W hW => ?_) ?_
    · go_simp
    go_simp
    refine hK _ ?_
    clear hK K
    refine wpQuiet_step (fun K hK => ?_)
    refine quiet_if (.bool false) (by rfl) (fun W hW => ?_) ?_
    · exact ⟨rfl, rfl⟩
    go_simp
    refine hK _ ?_
    clear hK K
    refine wpQuiet_step (fun K hK => ?_)
    refine quiet_if (.agg CX.toArray) (by rfl) (fun W hW => ?_) ?_
    · exact quiet_load 25 (.tmp 5) rfl q5 0 rfl CX _ W (HKEEP.out W hW).2.2.1 HU.out rfl HI1.out
    go_simp
    refine hK _ ?_
    clear hK K
    refine wpQuiet_step (fun K hK => ?_)
    refine quiet_if (.agg CY.toArray) (by rfl) (fun W hW => ?_) ?_
    · exact quiet_load 25 (.tmp 6) rfl q6 0 rfl CY _ W (HKEEP.out W hW).2.2.2 HU.out rfl HI2.out
    go_simp
    refine hK _ ?_
    clear hK K
    refine wpQuiet_step (fun K hK => ?_)
    refine quiet_if (.bool true) (by rfl) (fun W hW => ?_) ?_
    · have h1 := k2 W
      go_simp
    go_simp
    refine hK _ ?_
    clear hK K
    refine wpQuiet_step (fun K hK => ?_)
    refine quiet_if (.bool true) (by rfl) (fun W hW => ?_) ?_
    · exact ⟨rfl, rfl⟩
    go_simp
    refine hK _ ?_
    clear hK K
    refine wpQuiet_step (fun K hK => ?_)
    refine quiet_if (.bool true) (by rfl) (fun W hW => ?_) ?_
    · exact ⟨rfl, rfl⟩
    go_simp
    refine hK _ ?_
    clear hK K
    refine wpQuiet_step (fun K hK => ?_)
    refine quiet_if (.bool true) (by rfl) (fun W hW => ?_) ?_
    · exact ⟨rfl, rfl⟩
    go_simp
    refine hK _ ?_
    clear hK K
    refine wpQuiet_step (fun K hK => ?_)
    refine quiet_if (.agg CY.toArray) (by rfl) (fun W hW => ?_) ?_
    · exact quiet_load 25 (.tmp 6) rfl q6 0 rfl CY _ W (HKEEP.out W hW).2.2.2 HU.out rfl HI2.out
    go_simp
    refine hK _ ?_
    clear hK K
    refine wpQuiet_step (fun K hK => ?_)
    refine quiet_if (.slice b m d) (by rfl) (fun W hW => ?_) ?_
    · exact ⟨rfl, rfl⟩
    go_simp
    refine hK _ ?_
    clear hK K
    refine wpQuiet_step (fun K hK => ?_)
    refine quiet_if (.agg (bytesV Y)) (by rfl) (fun W hW => ?_) ?_
    · go_simp
      refine (HD.out W (HKEEP.out W hW).2.1).mono ?_
      rintro e W' ⟨rfl, h⟩
      exact ⟨rfl, hW.trans h⟩
    go_simp
    refine hK _ ?_
    clear hK K
    refine wpQuiet_step (fun K hK => ?_)
    refine quiet_if (.bool true) (by rfl) (fun W hW => ?_) ?_
    · have h1 := k3 W
      go_simp
    go_simp
    refine hK _ ?_
    clear hK K
    refine wpQuiet_step (fun K hK => ?_)
    refine quiet_if (.bool true) (by rfl) (fun W hW => ?_) ?_
    · exact ⟨rfl, rfl⟩
    go_simp
    refine hK _ ?_
    clear hK K
    refine wpQuiet_step (fun K hK => ?_)
    refine quiet_if (.bool true) (by rfl) (fun W hW => ?_) ?_
    · exact ⟨rfl, rfl⟩
    go_simp
    refine hK _ ?_
    clear hK K
    refine wpQuiet_nil (fun W hW => ?_)
    go_wp2
    go_ret
    exact ⟨rfl, HS5.out.trans hW⟩
  · rw [decide_eq_false hlk] at hcmp
    clear k2 hlk
    refine wp_region_quiet (C := fun W => Spares nowhere w5 W) (by kernel_rfl) (by kernel_rfl) (Spares.refl nowhere w5).drew ?_
    refine wpQuiet_step (fun K hK => ?_)
    refine quiet_if (.slice a n c) (by rfl) (fun W hW => ?_) ?_
    · exact ⟨rfl, rfl⟩
    go_simp
    refine hK _ ?_
    clear hK K
    refine wpQuiet_step (fun K hK => ?_)
    refine quiet_if (.agg (bytesV X)) (by rfl) (fun W hW => ?_) ?_
    · go_simp
      refine (HC.out W (HKEEP.out W hW).1).mono ?_
      rintro e W' ⟨rfl, h⟩
      exact ⟨rfl, hW.trans h⟩
    go_simp
    refine hK _ ?_
    clear hK K
    refine wpQuiet_step (fun K hK => ?_)
    refine quiet_if (.agg CX.toArray) (by rfl) (fun W hW => ?_) ?_
    · exact quiet_load 25 (.tmp 5) rfl q5 0 rfl CX _ W (HKEEP.out W hW).2.2.1 HU.out rfl HI1.out
    go_simp
    refine hK _ ?_
    clear hK K
    refine wpQuiet_step (fun K hK => ?_)
    refine quiet_if (.bool true) (by rfl) (fun W hW => ?_) ?_
    · have h1 := k1 W
      go_simp
    go_simp
    refine hK _ ?_
    clear hK K
    refine wpQuiet_step (fun K hK => ?_)
    refine quiet_if (.bool true) (by rfl) (fun W hW => ?_) ?_
    · exact ⟨rfl, rfl⟩
    go_simp
    refine hK _ ?_
    clear hK K
    refine wpQuiet_step (fun K hK => ?_)
    refine quiet_if (.slice a n c) (by rfl) (fun W hW => ?_) ?_
    · exact ⟨rfl, rfl⟩
    go_simp
    refine hK _ ?_
    clear hK K
    refine wpQuiet_step (fun K hK => ?_)
    refine quiet_if (.string sa) (by rfl) (fun W hW => ?_) ?_
    · have h1 := cv1 W (HKEEP.out W hW).1
      go_simp
    go_simp
    refine hK _ ?_
    clear hK K
    refine wpQuiet_step (fun K hK => ?_)
    refine quiet_if (.slice b m d) (by rfl) (fun W hW => ?_) ?_
    · exact ⟨rfl, rfl⟩
    go_simp
    refine hK _ ?_
    clear hK K
    refine wpQuiet_step (fun K hK => ?_)
    refine quiet_if (.string sb) (by rfl) (fun W hW => ?_) ?_
    · have h1 := cv2 W (HKEEP.out W hW).2.1
      go_simp
    go_simp
    refine hK _ ?_
    clear hK K
    refine wpQuiet_step (fun K hK => ?_)
    refine quiet_if (.bool true) (by rfl) (fun W hW => ?_) ?_
    · go_simp
    go_simp
    refine hK _ ?_
    clear hK K
    refine wpQuiet_step (fun K hK => ?_)
    refine quiet_if (.bool true) (by rfl) (fun W hW => ?_) ?_
    · exact ⟨rfl, rfl⟩
    go_simp
    refine hK _ ?_
    clear hK K
    refine wpQuiet_step (fun K hK => ?_)
    refine quiet_if_not (by rfl) ?_
    go_simp
    refine hK _ ?_
    clear hK K
    refine wpQuiet_step (fun K hK => ?_)
    refine quiet_if_not (by rfl) ?_
    go_simp
    refine hK _ ?_
    clear hK K
    refine wpQuiet_step (fun K hK => ?_)
    refine quiet_if_not (by rfl) ?_
    go_simp
    refine hK _ ?_
    clear hK K
    refine wpQuiet_step (fun K hK => ?_)
    refine quiet_if (.bool true) (by rfl) (fun W hW => ?_) ?_
    · exact ⟨rfl, rfl⟩
    go_simp
    refine hK _ ?_
    clear hK K
    refine wpQuiet_step (fun K hK => ?_)
    refine quiet_if (.bool true) (by rfl) (fun W hW => ?_) ?_
    · exact ⟨rfl, rfl⟩
    go_simp
    refine hK _ ?_
    clear hK K
    refine wpQuiet_step (fun K hK => ?_)
    refine quiet_if (.bool true) (by rfl) (fun W hW => ?_) ?_
    · exact ⟨rfl, rfl⟩
    go_simp
    refine hK _ ?_
    clear hK K
    refine wpQuiet_step (fun K hK => ?_)
    refine quiet_if (.agg CY.toArray) (by rfl) (fun W hW => ?_) ?_
    · exact quiet_load 25 (.tmp 6) rfl q6 0 rfl CY _ W (HKEEP.out W hW).2.2.2 HU.out rfl HI2.out
    go_simp
    refine hK _ ?_
    clear hK K
    refine wpQuiet_step (fun K hK => ?_)
    refine quiet_if (.slice b m d) (by rfl) (fun W hW => ?_) ?_
    · exact ⟨rfl, rfl⟩
    go_simp
    refine hK _ ?_
    clear hK K
    refine wpQuiet_step (fun K hK => ?_)
    refine quiet_if (.agg (bytesV Y)) (by rfl) (fun W hW => ?_) ?_
    · go_simp
      refine (HD.out W (HKEEP.out W hW).2.1).mono ?_
      rintro e W' ⟨rfl, h⟩
      exact ⟨rfl, hW.trans h⟩
    go_simp
    refine hK _ ?_
    clear hK K
    refine wpQuiet_step (fun K hK => ?_)
    refine quiet_if (.bool true) (by rfl) (fun W hW => ?_) ?_
    · have h1 := k3 W
      go_simp
    go_simp
    refine hK _ ?_
    clear hK K
    refine wpQuiet_step (fun K hK => ?_)
    refine quiet_if (.bool true) (by rfl) (fun W hW => ?_) ?_
    · exact ⟨rfl, rfl⟩
    go_simp
    refine hK _ ?_
    clear hK K
    refine wpQuiet_step (fun K hK => ?_)
    refine quiet_if (.bool true) (by rfl) (fun W hW => ?_) ?_
    · exact ⟨rfl, rfl⟩
    go_simp
    refine hK _ ?_
    clear hK K
    refine wpQuiet_nil (fun W hW => ?_)
    go_wp2
    go_ret
    exact ⟨rfl, HS5.out.trans hW⟩
end Go.Proofs.Ytfejnjgdgdhckaa
