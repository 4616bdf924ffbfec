/-
  known: two requests, two responses, a status.
  A text as bytes.
  What the final proofs of http open.
  HttpMany.
-/
import Derived.Lib.ConvBytes
import Derived.LaidMore
import Derived.Deep.QuietTactic
import Derived.Test.YtjpmofnnjdhamaaDoorMg2
import Derived.Test.YtjpmofnnjdhamaaDoorMg19
import Derived.Test.YtjpmofnnjdhamaaDoorMg21
namespace Go.Proofs.YtjpmofnnjdhamaaDoor
open Go.RowKit HeadMath NormMath NormS HeadS ChunkMath HttpMath

theorem litH_at (l : Bs) (fr : Nat × Nat) (w : World) : BytesAt (w.alloc (.cells (bytesV l) 5 fr)) (some ⟨w.heap.size, 0, none⟩) l := by
  intro k hk
  refine ⟨w.heap.size, 0, rfl, ?_⟩
  rw [Nat.zero_add, cell_of_row _ _ _ _ _ _ (heap_alloc_new w (.cells (bytesV l) 5 fr)), bytesV_get l k hk, List.getD_eq_getElem?_getD, List.getElem?_eq_getElem hk]
  rfl
theorem req_lit (l : Bs) (n : Nat) (hn : l.length = n) (hz : n ≤ 1000) (fr : Nat × Nat) (w : World) (hM : MaxL w) : Calls Tryd.prog 8 #[.slice (some ⟨w.heap.size, 0, none⟩) n n] (w.alloc (.cells (bytesV l) 5 fr)) (ReqPost (requestF l) (w.alloc (.cells (bytesV l) 5 fr))) :=
  request_any l _ n n _ hn.symm (litH_at l fr w) (by omega) (fun e => by cases e) (by omega) (hM.spares ((Spares.refl _ _).alloc _))
theorem rsp_lit (l : Bs) (method : ByteArray) (n : Nat) (hn : l.length = n) (hz : n ≤ 1000) (fr : Nat × Nat) (w : World) (hM : MaxL w) : Calls Tryd.prog 9 #[.slice (some ⟨w.heap.size, 0, none⟩) n n, .string method] (w.alloc (.cells (bytesV l) 5 fr)) (RspPost (responseF l method) (w.alloc (.cells (bytesV l) 5 fr))) :=
  response_any l method _ n n _ hn.symm (litH_at l fr w) (by omega) (fun e => by cases e) (by omega) (hM.spares ((Spares.refl _ _).alloc _))
def KnowsH (w : World) (e : Ending) (w' : World) : Prop := e = .returned (.bool true) ∧ Spares nowhere w w'
set_option maxRecDepth 100000 in
set_option maxHeartbeats 4000000 in
theorem knownH_any (w : World) (hM : MaxL w) : Calls Tryd.prog 6 #[] w (KnowsH w) := by
  have hcs := fun (W : World) (C : Array Value) (n c : Nat) => Lib.run_convert_bytes_const (P := Tryd.prog) W 24 5 C n c Tryd.underlying24 Tryd.underlying5
  have HM := Lib.hid hM
  have K1 := req_lit exQ 31 rfl (by decide) (31, 32) w hM
  rw [req_exQ] at K1
  unfold ReqPost at K1
  simp only at K1
  unfold KnowsH
  go_enter Tryd.func6, Tryd.ntmps6
  go_wp2_with fail
  refine K1.mono ?_
  rintro e w1 ⟨⟨vf, vb, rfl, hf1, hb1⟩, hs1⟩
  have HS1 : Hid (Spares nowhere w w1) := Lib.hid (((Spares.refl nowhere w).alloc (.cells (bytesV exQ) 5 (31, 32))).trans hs1)
  obtain ⟨fa, fc, rfl, _⟩ := rowF_shape hf1
  obtain ⟨ab, cb, rfl, _, _, _⟩ := hb1.shape
  rw [show hostF.length = 1 from rfl, show ([] : Bs).length = 0 from rfl]
  unfold reqV
  have em : ba [71, 69, 84] = ⟨#[71, 69, 84]⟩ := rfl
  have et : ba [47] = ⟨#[47]⟩ := rfl
  rw [em, et]
  clear K1 hf1 hb1 hs1 em et
  obtain ⟨v1, hv1⟩ : ∃ v1, w1.alloc (.cells #[.string ⟨#[71, 69, 84]⟩, .string ⟨#[47]⟩, .slice fa 1 fc, .slice ab 0 cb] 27) = v1 := ⟨_, rfl⟩
  have HA1 : Hid (v1.heap[w1.heap.size]? = some (.cells #[.string ⟨#[71, 69, 84]⟩, .string ⟨#[47]⟩, .slice fa 1 fc, .slice ab 0 cb] 27 (0, 0))) := Lib.hid (by rw [← hv1]; exact heap_alloc_new _ _)
  have HV1 : Hid (Spares nowhere w v1) := Lib.hid (by rw [← hv1]; exact HS1.out.alloc _)
  obtain ⟨g1, hg1⟩ : ∃ g1, w1.heap.size = g1 := ⟨_, rfl⟩
  rw [hg1] at HA1
  have K2 := req_lit exB 9 rfl (by decide) (9, 10) v1 (HM.out.spares HV1.out)
  rw [req_exB] at K2
  unfold ReqPost at K2
  simp only at K2
  go_wp2_with fail
  try rw [hv1]
  try rw [hg1]
  refine K2.mono ?_
  rintro e w2 ⟨rfl, hs2⟩
  have HS2 : Hid (Spares nowhere v1 w2) := Lib.hid (((Spares.refl nowhere v1).alloc (.cells (bytesV exB) 5 (9, 10))).trans hs2)
  obtain ⟨v2, hv2⟩ : ∃ v2, w2.alloc (.cells zeroQ 27) = v2 := ⟨_, rfl⟩
  have HV2 : Hid (Spares nowhere v1 v2) := Lib.hid (by rw [← hv2]; exact HS2.out.alloc _)
  unfold zeroQ at hv2
  unfold zeroQ
  have HW2 := Lib.hid hv2
  have K3 := rsp_lit exR getM 41 rfl (by decide) (41, 42) v2 (HM.out.spares (HV1.out.trans HV2.out))
  rw [rsp_exR] at K3
  have hz2 : v2.heap.size = w2.heap.size + 1 := by rw [← hv2]; simp
  rw [hz2] at K3
  have q2 : ∀ (C : Array Value) (n c : Nat), (convert 24 24 (.slice (some ⟨w2.heap.size + 1, 0, none⟩) n c)).run Tryd.prog ((w2.alloc (.cells #[.string ⟨#[]⟩, .string ⟨#[]⟩, .slice none 0 0, .slice none 0 0] 27)).alloc (.cells C 5)) = .ok (.slice (some ⟨w2.heap.size + 1, 0, none⟩) n c) ((w2.alloc (.cells #[.string ⟨#[]⟩, .string ⟨#[]⟩, .slice none 0 0, .slice none 0 0] 27)).alloc (.cells C 5 (C.size, C.size + 1))) := fun C n c => by
    have := hcs (w2.alloc (.cells #[.string ⟨#[]⟩, .string ⟨#[]⟩, .slice none 0 0, .slice none 0 0] 27)) C n c
    simpa using this
  unfold RspPost getM at K3
  simp only at K3
  clear K2 hs2 hv1 hv2
  go_wp2_with fail
  rw [HW2.out]
  refine K3.mono ?_
  rintro e w3 ⟨⟨vf3, vb3, rfl, hf3, hb3⟩, hs3⟩
  have HS3 : Hid (Spares nowhere v2 w3) := Lib.hid (((Spares.refl nowhere v2).alloc (.cells (bytesV exR) 5 (41, 42))).trans hs3)
  obtain ⟨fa3, fc3, rfl, _⟩ := rowF_shape hf3
  obtain ⟨ab3, cb3, rfl, hat3, _, _⟩ := hb3.shape
  rw [show twoF.length = 1 from rfl, show ([104, 105] : Bs).length = 2 from rfl]
  unfold rspV
  have em : ba [79, 75] = ⟨#[79, 75]⟩ := rfl
  rw [em]
  obtain ⟨v3, hv3⟩ : ∃ v3, w3.alloc (.cells #[.int .i64 200, .string ⟨#[79, 75]⟩, .slice fa3 1 fc3, .slice ab3 2 cb3] 32) = v3 := ⟨_, rfl⟩
  have HA3 : Hid (v3.heap[w3.heap.size]? = some (.cells #[.int .i64 200, .string ⟨#[79, 75]⟩, .slice fa3 1 fc3, .slice ab3 2 cb3] 32 (0, 0))) := Lib.hid (by rw [← hv3]; exact heap_alloc_new _ _)
  have HV3 : Hid (Spares nowhere v2 v3) := Lib.hid (by rw [← hv3]; exact HS3.out.alloc _)
  have HAT3 : Hid (BytesAt v3 (some ⟨0, 0, none⟩) [] ∧ BytesAt v3 ab3 [104, 105]) := Lib.hid ⟨bytesAt_nil _ _, by rw [← hv3]; exact hat3.spares' ((Spares.refl nowhere w3).alloc _) (fun _ _ _ _ h => h)⟩
  obtain ⟨g3, hg3⟩ : ∃ g3, w3.heap.size = g3 := ⟨_, rfl⟩
  rw [hg3] at HA3
  have K4 := response_any [] ⟨#[71, 69, 84]⟩ none 0 0 v3 rfl (bytesAt_nil _ _) (Nat.le_refl _) (fun _ => rfl) (by decide) (HM.out.spares (HV1.out.trans (HV2.out.trans HV3.out)))
  rw [show responseF [] ⟨#[71, 69, 84]⟩ = .error 92 from rsp_nil] at K4
  unfold RspPost at K4
  simp only at K4
  clear K3 hs3 hf3 hb3 hat3 em
  go_wp2_with fail
  try rw [hv3]
  try rw [hg3]
  refine K4.mono ?_
  rintro e w4 ⟨rfl, hs4⟩
  unfold zeroR
  obtain ⟨v4, hv4⟩ : ∃ v4, w4.alloc (.cells #[.int .i64 0, .string ⟨#[]⟩, .slice none 0 0, .slice none 0 0] 32) = v4 := ⟨_, rfl⟩
  have HV4 : Spares nowhere v3 v4 := by rw [← hv4]; exact hs4.alloc _
  have HW4 := Lib.hid hv4
  have hA1 := (HV2.out.trans (HV3.out.trans HV4)).heap HA1.out (fun h => h)
  have hA3 := HV4.heap HA3.out (fun h => h)
  have x0 : v4.cell? ⟨g1, 0, none⟩ = some (.string ⟨#[71, 69, 84]⟩) := (Lib.cell_of_heap hA1 0).trans rfl
  have x2 : v4.cell? ⟨g1, 2, none⟩ = some (.slice fa 1 fc) := (Lib.cell_of_heap hA1 2).trans rfl
  have x3 : v4.cell? ⟨g3, 3, none⟩ = some (.slice ab3 2 cb3) := (Lib.cell_of_heap hA3 3).trans rfl
  have hcv := conv_bytes (HAT3.out.2.spares' HV4 (fun _ _ _ _ h => h)) cb3
  have e1 : ((⟨([104, 105] : Bs).toArray⟩ : ByteArray).toList == [104, 105]) = true := by rw [Lib.toList_data]; rfl
  obtain ⟨XB, hXB⟩ : ∃ XB : ByteArray, (⟨([104, 105] : Bs).toArray⟩ : ByteArray) = XB := ⟨_, rfl⟩
  rw [show ([104, 105] : Bs).length = 2 from rfl, hXB] at hcv
  rw [hXB] at e1
  have e2 : ((⟨#[71, 69, 84]⟩ : ByteArray).toList == [71, 69, 84]) = true := by rw [Lib.toList_data]; rfl
  have HSS : Hid (Spares nowhere w v4) := Lib.hid (HV1.out.trans (HV2.out.trans (HV3.out.trans HV4)))
  have cB := fun w => bodiless_any 204 ⟨#[71, 69, 84]⟩ w
  rw [show bodilessF 204 ⟨#[71, 69, 84]⟩ = true by kernel_rfl] at cB
  have y0 : (w4.alloc (.cells #[.int .i64 0, .string ⟨#[]⟩, .slice none 0 0, .slice none 0 0] 32)).cell? ⟨g1, 0, none⟩ = some (.string ⟨#[71, 69, 84]⟩) := by rw [HW4.out]; exact x0
  have y2 : (w4.alloc (.cells #[.int .i64 0, .string ⟨#[]⟩, .slice none 0 0, .slice none 0 0] 32)).cell? ⟨g1, 2, none⟩ = some (.slice fa 1 fc) := by rw [HW4.out]; exact x2
  have y3 : (w4.alloc (.cells #[.int .i64 0, .string ⟨#[]⟩, .slice none 0 0, .slice none 0 0] 32)).cell? ⟨g3, 3, none⟩ = some (.slice ab3 2 cb3) := by rw [HW4.out]; exact x3
  have hcw : (convert 24 9 (.slice ab3 2 cb3)).run Tryd.prog (w4.alloc (.cells #[.int .i64 0, .string ⟨#[]⟩, .slice none 0 0, .slice none 0 0] 32)) = .ok (.string XB) (w4.alloc (.cells #[.int .i64 0, .string ⟨#[]⟩, .slice none 0 0, .slice none 0 0] 32)) := by rw [HW4.out]; exact hcv
  clear K4 hs4 hv3 hA1 hA3 HV4 hXB hv4 x0 x2 x3 hcv
  go_wp2_with fail
  try rw [HW4.out]
  refine (cB _).mono ?_
  rintro e w5 ⟨rfl, hw⟩
  replace hw := hw.symm
  subst hw
  go_wp2
  go_ret
  exact ⟨rfl, HSS.out⟩
end Go.Proofs.YtjpmofnnjdhamaaDoor
namespace Go.Proofs.YtjpmofnnjdhamaaDoor
open Go.RowKit HeadMath NormMath NormS HeadS ChunkMath HttpMath

theorem conv_str (w : World) (s : ByteArray) : ∃ c w', (convert 9 24 (.string s)).run Tryd.prog w = .ok (.slice (some ⟨w.heap.size, 0, none⟩) s.size c) w' ∧ BytesAt w' (some ⟨w.heap.size, 0, none⟩) s.data.toList ∧ Spares nowhere w w' ∧ s.size ≤ c := by
  refine ⟨_, _, Lib.run_convert_string_bytes w 9 24 5 s Tryd.underlying9 Tryd.underlying24 Tryd.underlying5, ?_, ?_, grownCap_ge _ _ _ _⟩
  · intro k hk
    have hs : k < s.size := by rw [Array.length_toList] at hk; exact hk
    refine ⟨w.heap.size, 0, rfl, ?_⟩
    rw [Nat.zero_add, Lib.bytesWorld_cell w _ s k hs, List.getD_eq_getElem?_getD, List.getElem?_eq_getElem hk]
    rfl
  · refine ⟨?_, ?_, ?_, ?_, fun b hb _ => Lib.bytesWorld_at_old w _ s b hb⟩
    · simp [Lib.bytesWorld, World.freeze, World.alloc, World.drew, -World.alloc_eq, -World.drew_eq]
    · simp [Lib.bytesWorld, World.freeze, World.alloc, World.drew, -World.alloc_eq, -World.drew_eq]
    · simp [Lib.bytesWorld, World.freeze, World.alloc, World.drew, -World.alloc_eq, -World.drew_eq]
    · rw [Lib.bytesWorld_size]; omega
end Go.Proofs.YtjpmofnnjdhamaaDoor
namespace Go.Proofs.YtjpmofnnjdhamaaDoor
open Go.RowKit

theorem i64_wide {x : Int} (h : (Lit.int .i64 x).wf = true) : -9223372036854775808 ≤ x ∧ x ≤ 9223372036854775807 := by
  simpa [Lit.wf, IntKind.min, IntKind.max, IntKind.bits, IntKind.signed] using h
end Go.Proofs.YtjpmofnnjdhamaaDoor
namespace Go.Proofs.YtjpmofnnjdhamaaDoor
open Go.RowKit HeadMath NormMath NormS HeadS ChunkMath HttpMath

theorem and_seven (n : Int) : ∃ j : Nat, j < 8 ∧ bits BinOp.and IntKind.i64 n 7 = (j : Int) := by
  refine ⟨(BitVec.ofInt 64 n &&& BitVec.ofInt 64 7).toNat, ?_, ?_⟩
  · rw [BitVec.toNat_and]
    have h7 : (BitVec.ofInt 64 7).toNat = 7 := by decide
    rw [h7]
    have := Nat.and_le_right (n := (BitVec.ofInt 64 n).toNat) (m := 7)
    omega
  · show IntKind.i64.wrap ((BitVec.ofInt 64 n &&& BitVec.ofInt 64 7).toNat : Int) = _
    have h7 : (BitVec.ofInt 64 7).toNat = 7 := by decide
    have := Nat.and_le_right (n := (BitVec.ofInt 64 n).toNat) (m := 7)
    rw [BitVec.toNat_and, h7]
    exact wrap_small _ (by omega) (by omega)
theorem many_k (n : Int) : ∃ k : Nat, 97 ≤ k ∧ k ≤ 104 ∧ wrap64 (97 + (wrap64 (bits BinOp.and IntKind.i64 n 7 + 8)).tmod 8) = (k : Int) := by
  obtain ⟨j, hj, hb⟩ := and_seven n
  refine ⟨97 + j, by omega, by omega, ?_⟩
  rw [hb]
  have h1 : wrap64 ((j : Int) + 8) = (j : Int) + 8 := by unfold wrap64; omega
  rw [h1, Int.tmod_eq_emod_of_nonneg (by omega)]
  have h2 : ((j : Int) + 8) % 8 = (j : Int) := by omega
  rw [h2]
  unfold wrap64; omega
theorem lineT_name (name : ByteArray) : lineT (name, vB) = name.data.toList ++ [58, 32, 118, 13, 10] := by
  unfold lineT
  rw [textOf_list]
  simp [vB, crlf2]
def preQ : Bs := getL ++ (crlf2 ++ lineT hostFi)
def preR : Bs := okL ++ (crlf2 ++ lineT serverF)
theorem manyT_len (name : ByteArray) : ∀ k, (manyT name k).length = k * (name.size + 5)
  | 0 => by unfold manyT; simp
  | k + 1 => by
    rw [manyT_succ, List.length_append, manyT_len name k, lineT_name, List.length_append, size_list, Nat.add_mul]
    simp
set_option maxRecDepth 100000 in
set_option maxHeartbeats 8000000 in
theorem manyLaw_any (n : Int) (name : ByteArray) (w : World) (_hn : -9223372036854775808 ≤ n ∧ n ≤ 9223372036854775807) (hr : name.size ≤ 140737488351232) (hM : MaxL w) :
    Calls Tryd.prog 5 #[.int .i64 n, .string name] w (KnowsH w) := by
  have K := knownH_any w hM
  have X := fun w => refToken_any name w hr
  have Y1 := fun w => refSame_any name nHost w hr (by decide)
  have Y2 := fun w => refSame_any name nCL w hr (by decide)
  have Y3 := fun w => refSame_any name nTE w hr (by decide)
  unfold nHost at Y1
  unfold nCL at Y2
  unfold nTE at Y3
  unfold KnowsH at K ⊢
  have HM := Lib.hid hM
  clear hM
  by_cases hl : 20 < name.size
  · have d0 : decide ((20 : Int) < (name.size : Int)) = true := by simp; omega
    go_enter Tryd.func5, Tryd.ntmps5
    go_wp2_with fail
    refine K.mono ?_
    rintro _ w1 ⟨rfl, hs1⟩
    go_wp2
    go_ret
    exact ⟨rfl, hs1⟩
  · have d0 : decide ((20 : Int) < (name.size : Int)) = false := by simp; omega
    obtain ⟨t, ht⟩ : ∃ t, tokenF name.data.toList = t := ⟨_, rfl⟩
    rw [ht] at X
    cases t with
    | false =>
      clear ht
      go_enter Tryd.func5, Tryd.ntmps5
      go_wp2_with fail
      refine K.mono ?_
      rintro _ w1 ⟨rfl, hs1⟩
      go_wp2_with fail
      refine (X _).mono ?_
      rintro _ w2 ⟨rfl, hw⟩
      subst hw
      go_wp2
      go_ret
      exact ⟨rfl, hs1⟩
    | true =>
      obtain ⟨s1, hs1'⟩ : ∃ s, sameF name.data.toList (⟨#[72, 111, 115, 116]⟩ : ByteArray).data.toList = s := ⟨_, rfl⟩
      rw [hs1'] at Y1
      obtain ⟨s2, hs2'⟩ : ∃ s, sameF name.data.toList (⟨#[67, 111, 110, 116, 101, 110, 116, 45, 76, 101, 110, 103, 116, 104]⟩ : ByteArray).data.toList = s := ⟨_, rfl⟩
      rw [hs2'] at Y2
      obtain ⟨s3, hs3'⟩ : ∃ s, sameF name.data.toList (⟨#[84, 114, 97, 110, 115, 102, 101, 114, 45, 69, 110, 99, 111, 100, 105, 110, 103]⟩ : ByteArray).data.toList = s := ⟨_, rfl⟩
      rw [hs3'] at Y3
      have HT := Lib.hid ht
      have H1 := Lib.hid hs1'
      have H2 := Lib.hid hs2'
      have H3 := Lib.hid hs3'
      clear ht hs1' hs2' hs3'
      cases s1 with
      | true =>
        go_enter Tryd.func5, Tryd.ntmps5
        go_wp2_with fail
        refine K.mono ?_
        rintro _ w1 ⟨rfl, hs1⟩
        go_wp2_with fail
        refine (X _).mono ?_
        rintro _ w2 ⟨rfl, hw⟩
        subst hw
        go_wp2_with fail
        refine (Y1 _).mono ?_
        rintro _ w2 ⟨rfl, hb2⟩
        go_wp2
        go_ret
        exact ⟨rfl, hs1.trans (Below.spares (F := nowhere) hb2 (fun k hk => .inr hk))⟩
      | false =>
        cases s2 with
        | true =>
          go_enter Tryd.func5, Tryd.ntmps5
          go_wp2_with fail
          refine K.mono ?_
          rintro _ w1 ⟨rfl, hs1⟩
          go_wp2_with fail
          refine (X _).mono ?_
          rintro _ w2 ⟨rfl, hw⟩
          subst hw
          go_wp2_with fail
          refine (Y1 _).mono ?_
          rintro _ w2 ⟨rfl, hb2⟩
          go_wp2_with fail
          refine (Y2 _).mono ?_
          rintro _ w3 ⟨rfl, hb3⟩
          go_wp2
          go_ret
          exact ⟨rfl, (hs1.trans (Below.spares (F := nowhere) hb2 (fun k hk => .inr hk))).trans (Below.spares (F := nowhere) hb3 (fun k hk => .inr hk))⟩
        | false =>
          cases s3 with
          | true =>
            go_enter Tryd.func5, Tryd.ntmps5
            go_wp2_with fail
            refine K.mono ?_
            rintro _ w1 ⟨rfl, hs1⟩
            go_wp2_with fail
            refine (X _).mono ?_
            rintro _ w2 ⟨rfl, hw⟩
            subst hw
            go_wp2_with fail
            refine (Y1 _).mono ?_
            rintro _ w2 ⟨rfl, hb2⟩
            go_wp2_with fail
            refine (Y2 _).mono ?_
            rintro _ w3 ⟨rfl, hb3⟩
            go_wp2_with fail
            refine (Y3 _).mono ?_
            rintro _ w4 ⟨rfl, hb4⟩
            go_wp2
            go_ret
            exact ⟨rfl, ((hs1.trans (Below.spares (F := nowhere) hb2 (fun k hk => .inr hk))).trans (Below.spares (F := nowhere) hb3 (fun k hk => .inr hk))).trans (Below.spares (F := nowhere) hb4 (fun k hk => .inr hk))⟩
          | false =>
            have HOK : Hid (NameOk name) := Lib.hid ⟨HT.out, H1.out, H2.out, H3.out, by omega⟩
            go_enter Tryd.func5, Tryd.ntmps5
            go_wp2_with fail
            refine K.mono ?_
            rintro _ w1 ⟨rfl, hs1⟩
            go_wp2_with fail
            refine (X _).mono ?_
            rintro _ w2 ⟨rfl, hw⟩
            subst hw
            go_wp2_with fail
            refine (Y1 _).mono ?_
            rintro _ w2 ⟨rfl, hb2⟩
            go_wp2_with fail
            refine (Y2 _).mono ?_
            rintro _ w3 ⟨rfl, hb3⟩
            go_wp2_with fail
            refine (Y3 _).mono ?_
            rintro _ w4 ⟨rfl, hb4⟩
            have HS4 := Lib.hid (((hs1.trans (Below.spares (F := nowhere) hb2 (fun k hk => .inr hk))).trans (Below.spares (F := nowhere) hb3 (fun k hk => .inr hk))).trans (Below.spares (F := nowhere) hb4 (fun k hk => .inr hk)))
            clear hs1 hb2 hb3 hb4 K X Y1 Y2 Y3 HT H1 H2 H3
            obtain ⟨k, hk1, hk2, hk⟩ := many_k n
            have hns : name.size ≤ 20 := by omega
            have hz5 : ({ data := #[58, 32, 118, 13, 10] } : ByteArray).size = 5 := rfl
            have hz2 : ({ data := #[13, 10] } : ByteArray).size = 2 := rfl
            have HK := Lib.hid hk
            clear hk
            go_wp2
            rw [HK.out]
            go_loopw [6, 7, 8] (fun s6 s7 i wr => ∃ (j : Nat) (S R : ByteArray), 1 ≤ j ∧ j ≤ k ∧ i = .int .i64 j ∧ s6 = .string S ∧ s7 = .string R ∧ wr = w4 ∧ Hid (S.data.toList = preQ ++ manyT name (j - 1)) ∧ Hid (R.data.toList = preR ++ manyT name (j - 1)) ∧ S.size ≤ 30 * j ∧ R.size ≤ 30 * j) (fun _ _ i _ => k - (intOf i).toNat)
            case atStart => exact ⟨1, _, _, Nat.le_refl _, by omega, rfl, rfl, rfl, rfl, Lib.hid rfl, Lib.hid rfl, by decide, by decide⟩
            case round =>
              obtain ⟨j, S, R, hj1, hj, rfl, rfl, rfl, rfl, HS, HR, hSs, hRs⟩ := hrel
              by_cases hlt : j < k
              · have i1 : (j : Int) < (k : Int) := by omega
                have HS1 : Hid ((S ++ name ++ { data := #[58, 32, 118, 13, 10] } : ByteArray).data.toList = preQ ++ manyT name (j + 1 - 1)) := Lib.hid (by
                  obtain ⟨j', rfl⟩ : ∃ j', j = j' + 1 := ⟨j - 1, by omega⟩
                  rw [show j' + 1 + 1 - 1 = j' + 1 by omega, manyT_succ, lineT_name, ByteArray.data_append, ByteArray.data_append, Array.toList_append, Array.toList_append, HS.out]
                  simp)
                have HR1 : Hid ((R ++ name ++ { data := #[58, 32, 118, 13, 10] } : ByteArray).data.toList = preR ++ manyT name (j + 1 - 1)) := Lib.hid (by
                  obtain ⟨j', rfl⟩ : ∃ j', j = j' + 1 := ⟨j - 1, by omega⟩
                  rw [show j' + 1 + 1 - 1 = j' + 1 by omega, manyT_succ, lineT_name, ByteArray.data_append, ByteArray.data_append, Array.toList_append, Array.toList_append, HR.out]
                  simp)
                have hS1 : (S ++ name ++ { data := #[58, 32, 118, 13, 10] } : ByteArray).size ≤ 30 * (j + 1) := by
                  rw [ByteArray.size_append, ByteArray.size_append, hz5]; omega
                have hR1 : (R ++ name ++ { data := #[58, 32, 118, 13, 10] } : ByteArray).size ≤ 30 * (j + 1) := by
                  rw [ByteArray.size_append, ByteArray.size_append, hz5]; omega
                go_wp2
                go_roundw
                case rel => exact ⟨j + 1, _, _, by omega, by omega, by go_num, rfl, rfl, trivial, HS1, HR1, hS1, hR1⟩
                case measure => simp [intOf]; omega
              · obtain rfl : j = k := by omega
                have i1 : ¬ (j : Int) < (j : Int) := by omega
                obtain ⟨q, rfl⟩ : ∃ q, j = q + 1 := ⟨j - 1, by omega⟩
                obtain ⟨X, hX⟩ : ∃ X : ByteArray, S ++ { data := #[13, 10] } = X := ⟨_, rfl⟩
                obtain ⟨Y, hY⟩ : ∃ Y : ByteArray, R ++ { data := #[13, 10] } = Y := ⟨_, rfl⟩
                have hXd : X.data.toList = getL ++ (crlf2 ++ (lineT hostFi ++ (manyT name q ++ crlf2))) := by
                  rw [← hX, ByteArray.data_append, Array.toList_append, HS.out]
                  simp [preQ, crlf2]
                have hYd : Y.data.toList = okL ++ (crlf2 ++ (lineT serverF ++ (manyT name q ++ crlf2))) := by
                  rw [← hY, ByteArray.data_append, Array.toList_append, HR.out]
                  simp [preR, crlf2]
                obtain ⟨nn, hQ⟩ := req_many HOK.out q (by omega)
                have hP := rsp_many HOK.out q (by omega)
                rw [← hXd] at hQ
                rw [← hYd] at hP
                have hXs : X.size ≤ 10000 := by rw [← hX, ByteArray.size_append, hz2]; omega
                have hYs : Y.size ≤ 10000 := by rw [← hY, ByteArray.size_append, hz2]; omega
                obtain ⟨c5, v5, hcv, hat5, hs5, hcap⟩ := conv_str wr X
                have HS5 := Lib.hid (HS4.out.trans hs5)
                have K := request_any X.data.toList (some ⟨wr.heap.size, 0, none⟩) c5 X.size v5 (size_list X).symm hat5 (by rw [size_list]; exact hcap) (fun e => by cases e) (by rw [size_list]; omega) (HM.out.spares HS5.out)
                rw [hQ] at K
                have HP := Lib.hid hP
                clear hXd hYd hQ hP hat5 hs5 hcap HS HR
                by_cases hbig : 100 < q + 1
                · have d1 : (100 : Int) < ((q + 1 : Nat) : Int) := by omega
                  rw [if_pos hbig] at K
                  unfold ReqPost zeroQ at K
                  simp only at K
                  go_wp2_with fail
                  refine K.mono ?_
                  rintro _ w3 ⟨rfl, hs3⟩
                  have HS3 := Lib.hid (HS5.out.trans hs3)
                  have HS6 : Hid (Spares nowhere w (w3.alloc (.cells #[.string ⟨#[]⟩, .string ⟨#[]⟩, .slice none 0 0, .slice none 0 0] 27))) := Lib.hid (HS3.out.alloc _)
                  obtain ⟨c6, v6, hcv6, hat6, hs6, hcap6⟩ := conv_str (w3.alloc (.cells #[.string ⟨#[]⟩, .string ⟨#[]⟩, .slice none 0 0, .slice none 0 0] 27)) Y
                  have hsz6 : (w3.alloc (.cells #[.string ⟨#[]⟩, .string ⟨#[]⟩, .slice none 0 0, .slice none 0 0] 27)).heap.size = w3.heap.size + 1 := by simp
                  rw [hsz6] at hcv6 hat6
                  have HS7 := Lib.hid (HS6.out.trans hs6)
                  have K2 := response_any Y.data.toList ⟨#[71, 69, 84]⟩ (some ⟨w3.heap.size + 1, 0, none⟩) c6 Y.size v6 (size_list Y).symm hat6 (by rw [size_list]; exact hcap6) (fun e => by cases e) (by rw [size_list]; omega) (HM.out.spares HS7.out)
                  rw [show responseF Y.data.toList ⟨#[71, 69, 84]⟩ = if 100 < q + 1 then .error 91 else .ok (200, [79, 75], manyF serverF name q, []) from HP.out] at K2
                  rw [if_pos hbig] at K2
                  unfold RspPost zeroR at K2
                  simp only at K2
                  clear K hs3 hat6 hs6 hcap6 hsz6 hbig
                  go_wp2_with fail
                  refine K2.mono ?_
                  rintro _ w7 ⟨rfl, hs7⟩
                  have HS8 := Lib.hid ((HS7.out.trans hs7).alloc (.cells #[.int .i64 0, .string ⟨#[]⟩, .slice none 0 0, .slice none 0 0] 32))
                  clear K2 hs7
                  go_wp2
                  go_ret
                  exact ⟨rfl, HS8.out⟩
                · have d1 : ¬ (100 : Int) < ((q + 1 : Nat) : Int) := by omega
                  rw [if_neg hbig] at K
                  unfold ReqPost reqV at K
                  simp only at K
                  go_wp2_with fail
                  refine K.mono ?_
                  rintro _ w3 ⟨⟨vf, vb, rfl, hf3, hb3⟩, hs3⟩
                  have HS3 := Lib.hid (HS5.out.trans hs3)
                  obtain ⟨fa, fc, rfl, _⟩ := rowF_shape hf3
                  obtain ⟨ab, cb, rfl, _, _, _⟩ := hb3.shape
                  rw [many_len]
                  simp only [List.length_nil]
                  rw [show ba [71, 69, 84] = ⟨#[71, 69, 84]⟩ from rfl, show ba [47] = ⟨#[47]⟩ from rfl]
                  have HS6 : Hid (Spares nowhere w (w3.alloc (.cells #[.string ⟨#[71, 69, 84]⟩, .string ⟨#[47]⟩, .slice fa (q + 1) fc, .slice ab 0 cb] 27))) := Lib.hid (HS3.out.alloc _)
                  obtain ⟨c6, v6, hcv6, hat6, hs6, hcap6⟩ := conv_str (w3.alloc (.cells #[.string ⟨#[71, 69, 84]⟩, .string ⟨#[47]⟩, .slice fa (q + 1) fc, .slice ab 0 cb] 27)) Y
                  have hsz6 : (w3.alloc (.cells #[.string ⟨#[71, 69, 84]⟩, .string ⟨#[47]⟩, .slice fa (q + 1) fc, .slice ab 0 cb] 27)).heap.size = w3.heap.size + 1 := by simp
                  rw [hsz6] at hcv6 hat6
                  have HS7 := Lib.hid (HS6.out.trans hs6)
                  have K2 := response_any Y.data.toList ⟨#[71, 69, 84]⟩ (some ⟨w3.heap.size + 1, 0, none⟩) c6 Y.size v6 (size_list Y).symm hat6 (by rw [size_list]; exact hcap6) (fun e => by cases e) (by rw [size_list]; omega) (HM.out.spares HS7.out)
                  rw [show responseF Y.data.toList ⟨#[71, 69, 84]⟩ = if 100 < q + 1 then .error 91 else .ok (200, [79, 75], manyF serverF name q, []) from HP.out] at K2
                  have HA1 : Hid ((w3.alloc (.cells #[.string ⟨#[71, 69, 84]⟩, .string ⟨#[47]⟩, .slice fa (q + 1) fc, .slice ab 0 cb] 27)).heap[w3.heap.size]? = some (.cells #[.string ⟨#[71, 69, 84]⟩, .string ⟨#[47]⟩, .slice fa (q + 1) fc, .slice ab 0 cb] 27 (0, 0))) := Lib.hid (heap_alloc_new _ _)
                  have HA2 := Lib.hid (hs6.heap HA1.out (fun h => h))
                  rw [if_neg hbig] at K2
                  unfold RspPost rspV at K2
                  simp only at K2
                  clear K hs3 hat6 hs6 hcap6 hsz6 hbig hf3 hb3 HA1
                  go_wp2_with fail
                  refine K2.mono ?_
                  rintro _ w7 ⟨⟨vf7, vb7, rfl, hf7, hb7⟩, hs7⟩
                  obtain ⟨fa7, fc7, rfl, _⟩ := rowF_shape hf7
                  obtain ⟨ab7, cb7, rfl, _, _, _⟩ := hb7.shape
                  rw [many_len]
                  simp only [List.length_nil]
                  rw [show ba [79, 75] = ⟨#[79, 75]⟩ from rfl]
                  obtain ⟨v8, hv8⟩ : ∃ v8, w7.alloc (.cells #[.int .i64 200, .string ⟨#[79, 75]⟩, .slice fa7 (q + 1) fc7, .slice ab7 0 cb7] 32) = v8 := ⟨_, rfl⟩
                  have HS8 : Hid (Spares nowhere w v8) := Lib.hid (by rw [← hv8]; exact (HS7.out.trans hs7).alloc _)
                  have hA3 : v8.heap[w3.heap.size]? = some (.cells #[.string ⟨#[71, 69, 84]⟩, .string ⟨#[47]⟩, .slice fa (q + 1) fc, .slice ab 0 cb] 27 (0, 0)) := by
                    rw [← hv8]
                    exact ((Spares.refl nowhere w7).alloc _).heap (hs7.heap HA2.out (fun h => h)) (fun h => h)
                  have x2 : v8.cell? ⟨w3.heap.size, 2, none⟩ = some (.slice fa (q + 1) fc) := (Lib.cell_of_heap hA3 2).trans rfl
                  have hB3 : v8.heap[w7.heap.size]? = some (.cells #[.int .i64 200, .string ⟨#[79, 75]⟩, .slice fa7 (q + 1) fc7, .slice ab7 0 cb7] 32 (0, 0)) := by rw [← hv8]; exact heap_alloc_new _ _
                  have y2 : v8.cell? ⟨w7.heap.size, 2, none⟩ = some (.slice fa7 (q + 1) fc7) := (Lib.cell_of_heap hB3 2).trans rfl
                  have e6 : (((q + 1 : Nat) : Int) == ((q + 1 : Nat) : Int)) = true := by simp
                  clear hA3 hB3 K2 hs7 hf7 hb7 HA2
                  go_wp2
                  go_ret
                  exact ⟨rfl, HS8.out⟩
end Go.Proofs.YtjpmofnnjdhamaaDoor
