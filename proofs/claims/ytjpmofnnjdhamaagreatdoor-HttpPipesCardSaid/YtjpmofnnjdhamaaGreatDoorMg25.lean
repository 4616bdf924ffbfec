/-
  known: two requests, two responses, a status.
  A text as bytes.
  HttpLines.
  What the final proofs of http open.
-/
import Derived.Lib.ConvBytes
import Derived.LaidMore
import Derived.Test.YtjpmofnnjdhamaaGreatDoorMg20
import Derived.Test.YtjpmofnnjdhamaaGreatDoorMg22
import Derived.Test.YtjpmofnnjdhamaaGreatDoorMg24
namespace Go.Proofs.YtjpmofnnjdhamaaGreatDoor
open Go.RowKit HeadMath NormMath NormS HeadS ChunkMath HttpMath

theorem litH_at (l : Bs) (fr : Nat × Nat) (w : World) : BytesAt (w.alloc (.cells (bytesV l) 5 fr)) (some ⟨w.heap.size, 0, none⟩) l := by
  intro k hk
  refine ⟨w.heap.size, 0, rfl, ?_⟩
  rw [Nat.zero_add, cell_of_row _ _ _ _ _ _ (heap_alloc_new w (.cells (bytesV l) 5 fr)), bytesV_get l k hk, List.getD_eq_getElem?_getD, List.getElem?_eq_getElem hk]
  rfl
theorem req_lit (l : Bs) (n : Nat) (hn : l.length = n) (hz : n ≤ 1000) (fr : Nat × Nat) (w : World) (hM : MaxL w) : Calls Tryz.prog 19 #[.slice (some ⟨w.heap.size, 0, none⟩) n n] (w.alloc (.cells (bytesV l) 5 fr)) (ReqPost (requestF l) (w.alloc (.cells (bytesV l) 5 fr))) :=
  request_any l _ n n _ hn.symm (litH_at l fr w) (by omega) (fun e => by cases e) (by omega) (hM.spares ((Spares.refl _ _).alloc _))
theorem rsp_lit (l : Bs) (method : ByteArray) (n : Nat) (hn : l.length = n) (hz : n ≤ 1000) (fr : Nat × Nat) (w : World) (hM : MaxL w) : Calls Tryz.prog 22 #[.slice (some ⟨w.heap.size, 0, none⟩) n n, .string method] (w.alloc (.cells (bytesV l) 5 fr)) (RspPost (responseF l method) (w.alloc (.cells (bytesV l) 5 fr))) :=
  response_any l method _ n n _ hn.symm (litH_at l fr w) (by omega) (fun e => by cases e) (by omega) (hM.spares ((Spares.refl _ _).alloc _))
def KnowsH (w : World) (e : Ending) (w' : World) : Prop := e = .returned (.bool true) ∧ Spares nowhere w w'
set_option maxRecDepth 100000 in
set_option maxHeartbeats 4000000 in
theorem knownH_any (w : World) (hM : MaxL w) : Calls Tryz.prog 9 #[] w (KnowsH w) := by
  have hcs := fun (W : World) (C : Array Value) (n c : Nat) => Lib.run_convert_bytes_const (P := Tryz.prog) W 23 5 C n c Tryz.underlying23 Tryz.underlying5
  have HM := Lib.hid hM
  have K1 := req_lit exQ 31 rfl (by decide) (31, 32) w hM
  rw [req_exQ] at K1
  unfold ReqPost at K1
  simp only at K1
  unfold KnowsH
  go_enter Tryz.func9, Tryz.ntmps9
  go_wp2_with fail
  refine K1.mono ?_
  rintro e w1 ⟨⟨vf, vb, rfl, hf1, hb1⟩, hs1⟩
  have HS1 : Hid (Spares nowhere w w1) := Lib.hid (((Spares.refl nowhere w).alloc (.cells (bytesV exQ) 5 (31, 32))).trans hs1)
  obtain ⟨fa, fc, rfl, _⟩ := rowF_shape hf1
  obtain ⟨ab, cb, rfl, _, _, _⟩ := hb1.shape
  rw [show hostF.length = 1 from rfl, show ([] : Bs).length = 0 from rfl]
  unfold reqV
  have em : ba [71, 69, 84] = ⟨#[71, 69, 84]⟩ := rfl
  have et : ba [47] = ⟨#[47]⟩ := rfl
  rw [em, et]
  clear K1 hf1 hb1 hs1 em et
  obtain ⟨v1, hv1⟩ : ∃ v1, w1.alloc (.cells #[.string ⟨#[71, 69, 84]⟩, .string ⟨#[47]⟩, .slice fa 1 fc, .slice ab 0 cb] 25) = v1 := ⟨_, rfl⟩
  have HA1 : Hid (v1.heap[w1.heap.size]? = some (.cells #[.string ⟨#[71, 69, 84]⟩, .string ⟨#[47]⟩, .slice fa 1 fc, .slice ab 0 cb] 25 (0, 0))) := Lib.hid (by rw [← hv1]; exact heap_alloc_new _ _)
  have HV1 : Hid (Spares nowhere w v1) := Lib.hid (by rw [← hv1]; exact HS1.out.alloc _)
  obtain ⟨g1, hg1⟩ : ∃ g1, w1.heap.size = g1 := ⟨_, rfl⟩
  rw [hg1] at HA1
  have K2 := req_lit exB 9 rfl (by decide) (9, 10) v1 (HM.out.spares HV1.out)
  rw [req_exB] at K2
  unfold ReqPost at K2
  simp only at K2
  go_wp2_with fail
  try rw [hv1]
  try rw [hg1]
  refine K2.mono ?_
  rintro e w2 ⟨rfl, hs2⟩
  have HS2 : Hid (Spares nowhere v1 w2) := Lib.hid (((Spares.refl nowhere v1).alloc (.cells (bytesV exB) 5 (9, 10))).trans hs2)
  obtain ⟨v2, hv2⟩ : ∃ v2, w2.alloc (.cells zeroQ 25) = v2 := ⟨_, rfl⟩
  have HV2 : Hid (Spares nowhere v1 v2) := Lib.hid (by rw [← hv2]; exact HS2.out.alloc _)
  unfold zeroQ at hv2
  unfold zeroQ
  have HW2 := Lib.hid hv2
  have K3 := rsp_lit exR getM 41 rfl (by decide) (41, 42) v2 (HM.out.spares (HV1.out.trans HV2.out))
  rw [rsp_exR] at K3
  have hz2 : v2.heap.size = w2.heap.size + 1 := by rw [← hv2]; simp
  rw [hz2] at K3
  have q2 : ∀ (C : Array Value) (n c : Nat), (convert 23 23 (.slice (some ⟨w2.heap.size + 1, 0, none⟩) n c)).run Tryz.prog ((w2.alloc (.cells #[.string ⟨#[]⟩, .string ⟨#[]⟩, .slice none 0 0, .slice none 0 0] 25)).alloc (.cells C 5)) = .ok (.slice (some ⟨w2.heap.size + 1, 0, none⟩) n c) ((w2.alloc (.cells #[.string ⟨#[]⟩, .string ⟨#[]⟩, .slice none 0 0, .slice none 0 0] 25)).alloc (.cells C 5 (C.size, C.size + 1))) := fun C n c => by
    have := hcs (w2.alloc (.cells #[.string ⟨#[]⟩, .string ⟨#[]⟩, .slice none 0 0, .slice none 0 0] 25)) C n c
    simpa using this
  unfold RspPost getM at K3
  simp only at K3
  clear K2 hs2 hv1 hv2
  go_wp2_with fail
  rw [HW2.out]
  refine K3.mono ?_
  rintro e w3 ⟨⟨vf3, vb3, rfl, hf3, hb3⟩, hs3⟩
  have HS3 : Hid (Spares nowhere v2 w3) := Lib.hid (((Spares.refl nowhere v2).alloc (.cells (bytesV exR) 5 (41, 42))).trans hs3)
  obtain ⟨fa3, fc3, rfl, _⟩ := rowF_shape hf3
  obtain ⟨ab3, cb3, rfl, hat3, _, _⟩ := hb3.shape
  rw [show twoF.length = 1 from rfl, show ([104, 105] : Bs).length = 2 from rfl]
  unfold rspV
  have em : ba [79, 75] = ⟨#[79, 75]⟩ := rfl
  rw [em]
  obtain ⟨v3, hv3⟩ : ∃ v3, w3.alloc (.cells #[.int .i64 200, .string ⟨#[79, 75]⟩, .slice fa3 1 fc3, .slice ab3 2 cb3] 27) = v3 := ⟨_, rfl⟩
  have HA3 : Hid (v3.heap[w3.heap.size]? = some (.cells #[.int .i64 200, .string ⟨#[79, 75]⟩, .slice fa3 1 fc3, .slice ab3 2 cb3] 27 (0, 0))) := Lib.hid (by rw [← hv3]; exact heap_alloc_new _ _)
  have HV3 : Hid (Spares nowhere v2 v3) := Lib.hid (by rw [← hv3]; exact HS3.out.alloc _)
  have HAT3 : Hid (BytesAt v3 (some ⟨0, 0, none⟩) [] ∧ BytesAt v3 ab3 [104, 105]) := Lib.hid ⟨bytesAt_nil _ _, by rw [← hv3]; exact hat3.spares' ((Spares.refl nowhere w3).alloc _) (fun _ _ _ _ h => h)⟩
  obtain ⟨g3, hg3⟩ : ∃ g3, w3.heap.size = g3 := ⟨_, rfl⟩
  rw [hg3] at HA3
  have K4 := response_any [] ⟨#[71, 69, 84]⟩ none 0 0 v3 rfl (bytesAt_nil _ _) (Nat.le_refl _) (fun _ => rfl) (by decide) (HM.out.spares (HV1.out.trans (HV2.out.trans HV3.out)))
  rw [show responseF [] ⟨#[71, 69, 84]⟩ = .error 92 from rsp_nil] at K4
  unfold RspPost at K4
  simp only at K4
  clear K3 hs3 hf3 hb3 hat3 em
  go_wp2_with fail
  try rw [hv3]
  try rw [hg3]
  refine K4.mono ?_
  rintro e w4 ⟨rfl, hs4⟩
  unfold zeroR
  obtain ⟨v4, hv4⟩ : ∃ v4, w4.alloc (.cells #[.int .i64 0, .string ⟨#[]⟩, .slice none 0 0, .slice none 0 0] 27) = v4 := ⟨_, rfl⟩
  have HV4 : Spares nowhere v3 v4 := by rw [← hv4]; exact hs4.alloc _
  have HW4 := Lib.hid hv4
  have hA1 := (HV2.out.trans (HV3.out.trans HV4)).heap HA1.out (fun h => h)
  have hA3 := HV4.heap HA3.out (fun h => h)
  have x0 : v4.cell? ⟨g1, 0, none⟩ = some (.string ⟨#[71, 69, 84]⟩) := (Lib.cell_of_heap hA1 0).trans rfl
  have x2 : v4.cell? ⟨g1, 2, none⟩ = some (.slice fa 1 fc) := (Lib.cell_of_heap hA1 2).trans rfl
  have x3 : v4.cell? ⟨g3, 3, none⟩ = some (.slice ab3 2 cb3) := (Lib.cell_of_heap hA3 3).trans rfl
  have hcv := conv_bytes (HAT3.out.2.spares' HV4 (fun _ _ _ _ h => h)) cb3
  have e1 : ((⟨([104, 105] : Bs).toArray⟩ : ByteArray).toList == [104, 105]) = true := by rw [Lib.toList_data]; rfl
  obtain ⟨XB, hXB⟩ : ∃ XB : ByteArray, (⟨([104, 105] : Bs).toArray⟩ : ByteArray) = XB := ⟨_, rfl⟩
  rw [show ([104, 105] : Bs).length = 2 from rfl, hXB] at hcv
  rw [hXB] at e1
  have e2 : ((⟨#[71, 69, 84]⟩ : ByteArray).toList == [71, 69, 84]) = true := by rw [Lib.toList_data]; rfl
  have HSS : Hid (Spares nowhere w v4) := Lib.hid (HV1.out.trans (HV2.out.trans (HV3.out.trans HV4)))
  have cB := fun w => bodiless_any 204 ⟨#[71, 69, 84]⟩ w
  rw [show bodilessF 204 ⟨#[71, 69, 84]⟩ = true by kernel_rfl] at cB
  have y0 : (w4.alloc (.cells #[.int .i64 0, .string ⟨#[]⟩, .slice none 0 0, .slice none 0 0] 27)).cell? ⟨g1, 0, none⟩ = some (.string ⟨#[71, 69, 84]⟩) := by rw [HW4.out]; exact x0
  have y2 : (w4.alloc (.cells #[.int .i64 0, .string ⟨#[]⟩, .slice none 0 0, .slice none 0 0] 27)).cell? ⟨g1, 2, none⟩ = some (.slice fa 1 fc) := by rw [HW4.out]; exact x2
  have y3 : (w4.alloc (.cells #[.int .i64 0, .string ⟨#[]⟩, .slice none 0 0, .slice none 0 0] 27)).cell? ⟨g3, 3, none⟩ = some (.slice ab3 2 cb3) := by rw [HW4.out]; exact x3
  have hcw : (convert 23 9 (.slice ab3 2 cb3)).run Tryz.prog (w4.alloc (.cells #[.int .i64 0, .string ⟨#[]⟩, .slice none 0 0, .slice none 0 0] 27)) = .ok (.string XB) (w4.alloc (.cells #[.int .i64 0, .string ⟨#[]⟩, .slice none 0 0, .slice none 0 0] 27)) := by rw [HW4.out]; exact hcv
  clear K4 hs4 hv3 hA1 hA3 HV4 hXB hv4 x0 x2 x3 hcv
  go_wp2_with fail
  try rw [HW4.out]
  refine (cB _).mono ?_
  rintro e w5 ⟨rfl, hw⟩
  replace hw := hw.symm
  subst hw
  go_wp2
  go_ret
  exact ⟨rfl, HSS.out⟩
end Go.Proofs.YtjpmofnnjdhamaaGreatDoor
namespace Go.Proofs.YtjpmofnnjdhamaaGreatDoor
open Go.RowKit HeadMath NormMath NormS HeadS ChunkMath HttpMath

theorem conv_str (w : World) (s : ByteArray) : ∃ c w', (convert 9 23 (.string s)).run Tryz.prog w = .ok (.slice (some ⟨w.heap.size, 0, none⟩) s.size c) w' ∧ BytesAt w' (some ⟨w.heap.size, 0, none⟩) s.data.toList ∧ Spares nowhere w w' ∧ s.size ≤ c := by
  refine ⟨_, _, Lib.run_convert_string_bytes w 9 23 5 s Tryz.underlying9 Tryz.underlying23 Tryz.underlying5, ?_, ?_, grownCap_ge _ _ _ _⟩
  · intro k hk
    have hs : k < s.size := by rw [Array.length_toList] at hk; exact hk
    refine ⟨w.heap.size, 0, rfl, ?_⟩
    rw [Nat.zero_add, Lib.bytesWorld_cell w _ s k hs, List.getD_eq_getElem?_getD, List.getElem?_eq_getElem hk]
    rfl
  · refine ⟨?_, ?_, ?_, ?_, fun b hb _ => Lib.bytesWorld_at_old w _ s b hb⟩
    · simp [Lib.bytesWorld, World.freeze, World.alloc, World.drew, -World.alloc_eq, -World.drew_eq]
    · simp [Lib.bytesWorld, World.freeze, World.alloc, World.drew, -World.alloc_eq, -World.drew_eq]
    · simp [Lib.bytesWorld, World.freeze, World.alloc, World.drew, -World.alloc_eq, -World.drew_eq]
    · rw [Lib.bytesWorld_size]; omega
end Go.Proofs.YtjpmofnnjdhamaaGreatDoor
namespace Go.Proofs.YtjpmofnnjdhamaaGreatDoor
open Go.RowKit HeadMath NormMath NormS HeadS ChunkMath HttpMath

theorem qF_few {b : Bs} (hb : b.length ≤ 1000000) : (qF (requestF b)).length ≤ 1000000 := by
  unfold requestF
  cases hH : headF b with
  | error x => exact Nat.zero_le _
  | ok lr =>
    obtain ⟨ls, rest⟩ := lr
    cases ls with
    | nil => exact Nat.zero_le _
    | cons l0 ls =>
      show (qF (reqL b l0 ls rest)).length ≤ _
      unfold reqL
      cases firstF l0 with
      | none => exact Nat.zero_le _
      | some mt =>
        obtain ⟨m, t⟩ := mt
        show (qF (reqH m t b rest (fieldsF ls))).length ≤ _
        cases hf : fieldsF ls with
        | error x => exact Nat.zero_le _
        | ok fs =>
          have hl := (fieldsF_few hf (fun l hl => by have := (cuts_lines hH).2.2.1 l (by simp [hl]); omega)).1
          show (qF (if (allF nHost fs).length = 1 then reqB m t fs b rest (framedF fs rest) else .error 90)).length ≤ _
          split
          · cases framedF fs rest with
            | error x => exact Nat.zero_le _
            | ok y => show fs.length ≤ _; omega
          · exact Nat.zero_le _
theorem rF_few {b : Bs} {method : ByteArray} (hb : b.length ≤ 1000000) : (rF (responseF b method)).length ≤ 1000000 := by
  unfold responseF
  cases hH : headF b with
  | error x => exact Nat.zero_le _
  | ok lr =>
    obtain ⟨ls, rest⟩ := lr
    cases ls with
    | nil => exact Nat.zero_le _
    | cons l0 ls =>
      show (rF (rspL method l0 ls rest)).length ≤ _
      unfold rspL
      cases statusF l0 with
      | none => exact Nat.zero_le _
      | some mt =>
        obtain ⟨n, r⟩ := mt
        show (rF (rspH n r method rest (fieldsF ls))).length ≤ _
        cases hf : fieldsF ls with
        | error x => exact Nat.zero_le _
        | ok fs =>
          have hl := (fieldsF_few hf (fun l hl => by have := (cuts_lines hH).2.2.1 l (by simp [hl]); omega)).1
          show (rF (if bodilessF n method = true then .ok (n, r, fs, []) else rspB n r fs (rspW fs rest))).length ≤ _
          split
          · show fs.length ≤ _; omega
          · cases rspW fs rest with
            | error x => exact Nat.zero_le _
            | ok y => show fs.length ≤ _; omega
theorem rest_short {b : Bs} (h : b.length ≤ 1024) : ∀ ls rest, headF b = .ok (ls, rest) → FitL rest := fun ls rest hH => fitL_short (by
  have := (cuts_lines hH).2.2.2
  omega)
theorem four_cells {u : World} {b : Nat} {x y z v : Value} {t : TypeId} {fz : Nat × Nat} (h : u.heap[b]? = some (.cells #[x, y, z, v] t fz)) : u.cell? ⟨b, 0, none⟩ = some x ∧ u.cell? ⟨b, 1, none⟩ = some y ∧ u.cell? ⟨b, 2, none⟩ = some z ∧ u.cell? ⟨b, 3, none⟩ = some v :=
  ⟨(Lib.cell_of_heap h 0).trans rfl, (Lib.cell_of_heap h 1).trans rfl, (Lib.cell_of_heap h 2).trans rfl, (Lib.cell_of_heap h 3).trans rfl⟩
set_option maxRecDepth 100000 in
set_option maxHeartbeats 8000000 in
theorem linesLaw_any (s method : ByteArray) (w : World) (hs : s.size ≤ 140737488351232) (hm : method.size ≤ 140737488351232) (hM : MaxL w) :
    Calls Tryz.prog 7 #[.string s, .string method] w (KnowsH w) := by
  have K := knownH_any w hM
  unfold KnowsH at K ⊢
  have HM := Lib.hid hM
  clear hM
  by_cases hl : 300 < s.size
  · have d0 : decide ((300 : Int) < (s.size : Int)) = true := by simp; omega
    go_enter Tryz.func7, Tryz.ntmps7
    go_wp2_with fail
    refine K.mono ?_
    rintro _ w1 ⟨rfl, hs1⟩
    go_wp2
    go_ret
    exact ⟨rfl, hs1⟩
  · have d0 : decide ((300 : Int) < (s.size : Int)) = false := by simp; omega
    by_cases hl2 : 50 < method.size
    · have d1 : decide ((50 : Int) < (method.size : Int)) = true := by simp; omega
      go_enter Tryz.func7, Tryz.ntmps7
      go_wp2_with fail
      refine K.mono ?_
      rintro _ w1 ⟨rfl, hs1⟩
      go_wp2
      go_ret
      exact ⟨rfl, hs1⟩
    · have d1 : decide ((50 : Int) < (method.size : Int)) = false := by simp; omega
      have hlit : (⟨#[13, 10, 72, 111, 115, 116, 58, 32, 104, 13, 10, 67, 111, 110, 116, 101, 110, 116, 45, 76, 101, 110, 103, 116, 104, 58, 32, 50, 13, 10, 13, 10, 104, 105]⟩ : ByteArray).size = 34 := rfl
      obtain ⟨Y, hY⟩ : ∃ Y : ByteArray, s ++ (⟨#[13, 10, 72, 111, 115, 116, 58, 32, 104, 13, 10, 67, 111, 110, 116, 101, 110, 116, 45, 76, 101, 110, 103, 116, 104, 58, 32, 50, 13, 10, 13, 10, 104, 105]⟩ : ByteArray) = Y := ⟨_, rfl⟩
      have hYs : Y.size ≤ 400 := by rw [← hY, ByteArray.size_append, hlit]; omega
      obtain ⟨B, hB⟩ : ∃ B, Y.data.toList = B := ⟨_, rfl⟩
      have hBl : B.length = Y.size := by rw [← hB]; simp
      have HBL := Lib.hid hBl
      obtain ⟨rq, hrq⟩ : ∃ rq, requestF B = rq := ⟨_, rfl⟩
      obtain ⟨rp, hrp⟩ : ∃ rp, responseF B method = rp := ⟨_, rfl⟩
      have HQF : Hid ((qF rq).length ≤ 1000000) := Lib.hid (by rw [← hrq]; exact qF_few (by omega))
      have HPF : Hid ((rF rp).length ≤ 1000000) := Lib.hid (by rw [← hrp]; exact rF_few (by omega))
      have HRQ := Lib.hid hrq
      have HRP := Lib.hid hrp
      have HBB := Lib.hid hB
      clear hrq hrp hBl hB
      go_enter Tryz.func7, Tryz.ntmps7
      go_wp2_with fail
      refine K.mono ?_
      rintro _ w1 ⟨rfl, hs1⟩
      obtain ⟨c, w2, hcv, hat, hs2, hcc⟩ := conv_str w1 Y
      rw [HBB.out] at hat
      have HS2 : Hid (Spares nowhere w w2) := Lib.hid (hs1.trans hs2)
      have HAT : Hid (∀ W, Spares nowhere w2 W → BytesAt W (some ⟨w1.heap.size, 0, none⟩) B) := Lib.hid (fun W h => hat.spares' h (fun _ _ _ _ h => h))
      have CQ : Hid (∀ W, Spares nowhere w2 W → Calls Tryz.prog 19 #[.slice (some ⟨w1.heap.size, 0, none⟩) Y.size c] W (ReqPost rq W)) := Lib.hid (fun W h => by
        rw [← HRQ.out]
        exact request_any B _ c Y.size W HBL.out.symm (HAT.out W h) (by rw [HBL.out]; exact hcc) (fun e => by cases e) (by rw [HBL.out]; omega) (HM.out.spares (HS2.out.trans h)))
      have CQR : Hid (∀ W, Spares nowhere w2 W → Calls Tryz.prog 25 #[.slice (some ⟨w1.heap.size, 0, none⟩) Y.size c] W (ReqPost rq W)) := Lib.hid (fun W h => by
        rw [← HRQ.out, ← HBL.out]
        exact refRequest_any B _ c W (HAT.out W h) (by rw [HBL.out]; exact hcc) (by rw [HBL.out]; omega) (rest_short (by rw [HBL.out]; omega)))
      have CP : Hid (∀ W, Spares nowhere w2 W → Calls Tryz.prog 22 #[.slice (some ⟨w1.heap.size, 0, none⟩) Y.size c, .string method] W (RspPost rp W)) := Lib.hid (fun W h => by
        rw [← HRP.out]
        exact response_any B method _ c Y.size W HBL.out.symm (HAT.out W h) (by rw [HBL.out]; exact hcc) (fun e => by cases e) (by rw [HBL.out]; omega) (HM.out.spares (HS2.out.trans h)))
      have CPR : Hid (∀ W, Spares nowhere w2 W → Calls Tryz.prog 26 #[.slice (some ⟨w1.heap.size, 0, none⟩) Y.size c, .string method] W (RspPost rp W)) := Lib.hid (fun W h => by
        rw [← HRP.out, ← HBL.out]
        exact refResponse_any B method _ c W (HAT.out W h) (by rw [HBL.out]; exact hcc) (by rw [HBL.out]; omega) (rest_short (by rw [HBL.out]; omega)))
      clear hat hs1 hs2
      go_wp2_with fail
      refine (CQ.out _ (Spares.refl _ _)).mono ?_
      rintro _ w3 h3
      obtain ⟨fa, fc, ab, cb, rfl, hfi, hbi, hs3⟩ := req_shape h3
      have HS3 := Lib.hid hs3
      have HF3 := Lib.hid hfi
      have HB3 := Lib.hid hbi
      have HV3 : Hid ((w3.alloc (.cells #[.string (qM rq), .string (qT rq), .slice fa (qF rq).length fc, .slice ab (qB rq).length cb] 25)).heap[w3.heap.size]? = some (.cells #[.string (qM rq), .string (qT rq), .slice fa (qF rq).length fc, .slice ab (qB rq).length cb] 25 (0, 0))) := Lib.hid (heap_alloc_new _ _)
      clear h3 hs3 hfi hbi
      go_wp2_with fail
      refine (CQR.out _ (HS3.out.alloc _)).mono ?_
      rintro _ w4 h4
      obtain ⟨fa', fc', ab', cb', rfl, hfi, hbi, hs4⟩ := req_shape h4
      have HV4 := Lib.hid (hs4.heap HV3.out (fun h => h))
      have HS34 : Hid (Spares nowhere w3 w4) := Lib.hid (((Spares.refl nowhere w3).alloc _).trans hs4)
      have HF4 := Lib.hid hfi
      have HB4 := Lib.hid hbi
      have HV4' : Hid ((w4.alloc (.cells #[.string (qM rq), .string (qT rq), .slice fa' (qF rq).length fc', .slice ab' (qB rq).length cb'] 25)).heap[w4.heap.size]? = some (.cells #[.string (qM rq), .string (qT rq), .slice fa' (qF rq).length fc', .slice ab' (qB rq).length cb'] 25 (0, 0))) := Lib.hid (heap_alloc_new _ _)
      clear h4 hs4 hfi hbi
      go_wp2_with fail
      refine (CP.out _ ((HS3.out.trans HS34.out).alloc _)).mono ?_
      rintro _ w5 h5
      obtain ⟨ga, gc, bb, bc, rfl, hfi, hbi, hs5⟩ := rsp_shape h5
      have HS45 : Hid (Spares nowhere w4 w5) := Lib.hid (((Spares.refl nowhere w4).alloc _).trans hs5)
      have HV5 := Lib.hid (HS45.out.heap HV4.out (fun h => h))
      have HV5' := Lib.hid (hs5.heap HV4'.out (fun h => h))
      have HF5 := Lib.hid hfi
      have HB5 := Lib.hid hbi
      have HV5'' : Hid ((w5.alloc (.cells #[.int .i64 (rN rp : Nat), .string (rR rp), .slice ga (rF rp).length gc, .slice bb (rB rp).length bc] 27)).heap[w5.heap.size]? = some (.cells #[.int .i64 (rN rp : Nat), .string (rR rp), .slice ga (rF rp).length gc, .slice bb (rB rp).length bc] 27 (0, 0))) := Lib.hid (heap_alloc_new _ _)
      clear h5 hs5 hfi hbi
      go_wp2_with fail
      refine (CPR.out _ (((HS3.out.trans HS34.out).trans HS45.out).alloc _)).mono ?_
      rintro _ w6 h6
      obtain ⟨ga', gc', bb', bc', rfl, hfi, hbi, hs6⟩ := rsp_shape h6
      have HS56 : Hid (Spares nowhere w5 w6) := Lib.hid (((Spares.refl nowhere w5).alloc _).trans hs6)
      have hv6 := hs6.heap HV5''.out (fun h => h)
      have hv5 := HS56.out.heap HV5'.out (fun h => h)
      have hv4 := HS56.out.heap HV5.out (fun h => h)
      obtain ⟨v7, hv7⟩ : ∃ v7, w6.alloc (.cells #[.int .i64 (rN rp : Nat), .string (rR rp), .slice ga' (rF rp).length gc', .slice bb' (rB rp).length bc'] 27) = v7 := ⟨_, rfl⟩
      have HV7 := Lib.hid hv7
      have hs7 : Spares nowhere w6 v7 := by rw [← hv7]; exact (Spares.refl _ _).alloc _
      have b3 := hs7.heap hv4 (fun h => h)
      have b4 := hs7.heap hv5 (fun h => h)
      have b5 := hs7.heap hv6 (fun h => h)
      have b6 : v7.heap[w6.heap.size]? = some (.cells #[.int .i64 (rN rp : Nat), .string (rR rp), .slice ga' (rF rp).length gc', .slice bb' (rB rp).length bc'] 27 (0, 0)) := by rw [← hv7]; exact heap_alloc_new _ _
      have HF6 := Lib.hid hfi
      have HB6 := Lib.hid hbi
      have HS67 := Lib.hid hs7
      have HSF : Hid (Spares nowhere w v7) := Lib.hid ((((((HS2.out.trans HS3.out).trans HS34.out).trans HS45.out).trans HS56.out)).trans hs7)
      have HX3 := Lib.hid b3
      have HX4 := Lib.hid b4
      have HX5 := Lib.hid b5
      have HX6 := Lib.hid b6
      have CQS : Hid (∀ W, Spares nowhere v7 W → Calls Tryz.prog 21 #[.agg #[.string (qM rq), .string (qT rq), .slice fa (qF rq).length fc, .slice ab (qB rq).length cb], .agg #[.string (qM rq), .string (qT rq), .slice fa' (qF rq).length fc', .slice ab' (qB rq).length cb']] W (YesH W)) := Lib.hid (fun W h => by
        have h4 := ((HS45.out.trans HS56.out).trans hs7).trans h
        have h3 := HS34.out.trans h4
        exact helpReq_same _ _ (qF rq) (qB rq) fa fa' ab ab' fc fc' cb cb' _ _ W rfl rfl (FieldsIn.quiet HF3.out (Nat.le_refl _) h3 h3.size) (FieldsIn.quiet HF4.out (Nat.le_refl _) h4 h4.size) (HB3.out.spares' h3 (fun _ _ _ _ h => h)) (HB4.out.spares' h4 (fun _ _ _ _ h => h)) HQF.out)
      have CPS : Hid (∀ W, Spares nowhere v7 W → Calls Tryz.prog 23 #[.agg #[.int .i64 (rN rp : Nat), .string (rR rp), .slice ga (rF rp).length gc, .slice bb (rB rp).length bc], .agg #[.int .i64 (rN rp : Nat), .string (rR rp), .slice ga' (rF rp).length gc', .slice bb' (rB rp).length bc']] W (YesH W)) := Lib.hid (fun W h => by
        have h6 := hs7.trans h
        have h5 := HS56.out.trans h6
        exact helpRsp_same _ _ (rF rp) (rB rp) ga ga' bb bb' gc gc' bc bc' _ _ W rfl rfl (FieldsIn.quiet HF5.out (Nat.le_refl _) h5 h5.size) (FieldsIn.quiet HF6.out (Nat.le_refl _) h6 h6.size) (HB5.out.spares' h5 (fun _ _ _ _ h => h)) (HB6.out.spares' h6 (fun _ _ _ _ h => h)) HPF.out)
      unfold YesH at CQS CPS
      clear h6 hs6 hfi hbi hv7 hs7 hv6
      obtain ⟨p0, p1, p2, p3⟩ := four_cells b3
      obtain ⟨p4, p5, p6, p7⟩ := four_cells b4
      rw [← HV7.out] at p0 p1 p2 p3 p4 p5 p6 p7
      obtain ⟨o0, o1, o2, o3⟩ := four_cells hv4
      obtain ⟨o4, o5, o6, o7⟩ := four_cells hv5
      clear b3 b4 b5 b6 hv4 hv5
      go_wp2_with fail
      rw [HV7.out]
      refine (CQS.out _ (Spares.refl _ _)).mono ?_
      rintro _ w8 ⟨rfl, hs8⟩
      obtain ⟨r0, r1, r2, r3⟩ := four_cells (hs8.heap HX5.out (fun h => h))
      obtain ⟨r4, r5, r6, r7⟩ := four_cells (hs8.heap HX6.out (fun h => h))
      clear p0 p1 p2 p3 p4 p5 p6 p7 o0 o1 o2 o3 o4 o5 o6 o7
      go_wp2_with fail
      refine (CPS.out _ hs8).mono ?_
      rintro _ w9 ⟨rfl, hs9⟩
      go_wp2
      go_ret
      exact ⟨rfl, (HSF.out.trans hs8).trans hs9⟩
end Go.Proofs.YtjpmofnnjdhamaaGreatDoor
namespace Go.Proofs.YtjpmofnnjdhamaaGreatDoor
open Go.RowKit

theorem i64_wide {x : Int} (h : (Lit.int .i64 x).wf = true) : -9223372036854775808 ≤ x ∧ x ≤ 9223372036854775807 := by
  simpa [Lit.wf, IntKind.min, IntKind.max, IntKind.bits, IntKind.signed] using h
end Go.Proofs.YtjpmofnnjdhamaaGreatDoor
