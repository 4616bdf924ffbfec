/-
  The reference's Parse, of the first form.
-/
import Derived.Test.YtfnpncmdeimcbaaDoorDateRefMade2
namespace Go.Proofs.YtfnpncmdeimcbaaDoor
open Go.RowKit DateMath

def RowAt (w : World) (g : Nat) (L : List Bs) : Prop := w.heap[g]? = some (.cells (L.map fun l => Value.string (arrD l)).toArray 9 (0, 0))
theorem days_row (w : World) : Calls Tryd.prog 23 #[] w fun e w' => e = .returned (.slice (some ⟨w.heap.size, 0, none⟩) 7 7) ∧ Hid (RowAt w' w.heap.size day3L ∧ Below w.heap.size w w') :=
  (refDays_any w).mono fun e w' ⟨he, hw⟩ => ⟨he, Lib.hid ⟨by rw [hw]; exact heap_alloc_new w _, by rw [hw]; exact (Below.refl _ _).alloc (Nat.le_refl _) _⟩⟩
theorem months_row (w : World) : Calls Tryd.prog 25 #[] w fun e w' => e = .returned (.slice (some ⟨w.heap.size, 0, none⟩) 12 12) ∧ Hid (RowAt w' w.heap.size monL ∧ Below w.heap.size w w') :=
  (refMonths_any w).mono fun e w' ⟨he, hw⟩ => ⟨he, Lib.hid ⟨by rw [hw]; exact heap_alloc_new w _, by rw [hw]; exact (Below.refl _ _).alloc (Nat.le_refl _) _⟩⟩
theorem longs_row (w : World) : Calls Tryd.prog 29 #[] w fun e w' => e = .returned (.slice (some ⟨w.heap.size, 0, none⟩) 7 7) ∧ Hid (RowAt w' w.heap.size dayL ∧ Below w.heap.size w w') :=
  (refLongs_any w).mono fun e w' ⟨he, hw⟩ => ⟨he, Lib.hid ⟨by rw [hw]; exact heap_alloc_new w _, by rw [hw]; exact (Below.refl _ _).alloc (Nat.le_refl _) _⟩⟩
theorem index_row {L : List Bs} {g : Nat} {x : World} (h : RowAt x g L) (hl : L.length ≤ 100) (n : Nat) (hn : n = L.length) (s : ByteArray) : Calls Tryd.prog 28 #[.slice (some ⟨g, 0, none⟩) n n, .string s] x fun e w' => e = .returned (.int .i64 (idxF L s.data.toList)) ∧ w' = x :=
  refIndex_any L s g n n x hn hl (row_cells h)
theorem lit_list (l : Bs) : (⟨l.toArray⟩ : ByteArray).toList = l := by rw [Lib.toList_data]
theorem ext_list (s : ByteArray) (a b : Nat) : (s.extract a b).toList = sl s.data.toList a b := by rw [Lib.toList_data, Lib.extract_data]; rfl
theorem get_u8 {s : ByteArray} {i : Nat} (h : i < s.size) : s[i] = s.data.toList.getD i 0 := by
  rw [List.getD_eq_getElem?_getD, List.getElem?_eq_getElem (by simpa using h)]; rfl
theorem eq32 (b : UInt8) (n : UInt8) : ((b.toNat : Int) == (n.toNat : Int)) = decide (b = n) := by
  by_cases h : b = n
  · subst h; simp
  · have : ¬ (b.toNat : Int) = (n.toNat : Int) := fun e => h (UInt8.toNat_inj.1 (by omega))
    simp [h, this]
set_option maxRecDepth 100000 in
set_option maxHeartbeats 16000000 in
theorem refParse_plain (s : ByteArray) (w : World) (hs : sepP s.data.toList) : Calls Tryd.prog 12 #[.string s] w (PairPost (readF s.data.toList) w) := by
  have hl : s.size = 29 := by have := hs.1; simpa using this
  have hls : 29 ≤ s.size := by omega
  have HR := Lib.hid (ref_plain _ hs)
  obtain ⟨_, a1, a2, a3, a4, a5⟩ := hs
  have t35 : ((s.extract 3 5).toList == [44, 32]) = true := by rw [ext_list, a1]; exact beq_self_eq_true _
  have hext : s.extract 25 s.size = s.extract 25 29 := by rw [hl]
  have t25 : ((s.extract 25 29).toList == [32, 71, 77, 84]) = true := by rw [ext_list, a5]; exact beq_self_eq_true _
  have t7 : ((s[7]'(Nat.lt_of_lt_of_le (by decide) hls)).toNat : Int) = 32 := by rw [get_u8, a2]; rfl
  have t11 : ((s[11]'(Nat.lt_of_lt_of_le (by decide) hls)).toNat : Int) = 32 := by rw [get_u8, a3]; rfl
  have t16 : ((s[16]'(Nat.lt_of_lt_of_le (by decide) hls)).toNat : Int) = 32 := by rw [get_u8, a4]; rfl
  have x1 : (s.extract 5 7).data.toList = sl s.data.toList 5 7 := by rw [Lib.extract_data]; rfl
  have x2 : (s.extract 12 16).data.toList = sl s.data.toList 12 16 := by rw [Lib.extract_data]; rfl
  have x3 : (s.extract 0 3).data.toList = sl s.data.toList 0 3 := by rw [Lib.extract_data]; rfl
  have x4 : (s.extract 8 11).data.toList = sl s.data.toList 8 11 := by rw [Lib.extract_data]; rfl
  have x5 : (s.extract 17 25).data.toList = sl s.data.toList 17 25 := by rw [Lib.extract_data]; rfl
  obtain ⟨S1, h1⟩ : ∃ x, s.extract 5 7 = x := ⟨_, rfl⟩
  obtain ⟨S2, h2⟩ : ∃ x, s.extract 12 16 = x := ⟨_, rfl⟩
  obtain ⟨S3, h3⟩ : ∃ x, s.extract 0 3 = x := ⟨_, rfl⟩
  obtain ⟨S4, h4⟩ : ∃ x, s.extract 8 11 = x := ⟨_, rfl⟩
  obtain ⟨S5, h5⟩ : ∃ x, s.extract 17 25 = x := ⟨_, rfl⟩
  have z1 : S1.size ≤ 4 := by rw [← h1, ByteArray.size_extract]; omega
  have z2 : S2.size ≤ 4 := by rw [← h2, ByteArray.size_extract]; omega
  have z5 : S5.size = 8 := by rw [← h5, ByteArray.size_extract]; omega
  rw [h1] at x1
  rw [h2] at x2
  rw [h3] at x3
  rw [h4] at x4
  rw [h5] at x5
  have D1 := fun x => refDigits_any S1 x z1
  have D2 := fun x => refDigits_any S2 x z2
  unfold numV at D1 D2
  rw [x1] at D1
  rw [x2] at D2
  have l1 := num_le4 (sl s.data.toList 5 7)
  have l2 := num_le4 (sl s.data.toList 12 16)
  have C1 := Lib.hid D1
  have C2 := Lib.hid D2
  have i1 := idx_lt day3L (sl s.data.toList 0 3)
  have i2 := idx_ge day3L (sl s.data.toList 0 3)
  have i3 := idx_lt monL (sl s.data.toList 8 11)
  have i4 := idx_ge monL (sl s.data.toList 8 11)
  have e7 : day3L.length = 7 := rfl
  have e12 : monL.length = 12 := rfl
  obtain ⟨R, hR⟩ : ∃ R, readF s.data.toList = R := ⟨_, rfl⟩
  obtain ⟨o1, ho1⟩ : ∃ o, numF (sl s.data.toList 5 7) 4 = o := ⟨_, rfl⟩
  obtain ⟨o2, ho2⟩ : ∃ o, numF (sl s.data.toList 12 16) 4 = o := ⟨_, rfl⟩
  rw [ho1] at C1 l1 HR
  rw [ho2] at C2 l2 HR
  rw [hR] at HR ⊢
  have X3 := Lib.hid x3
  have X4 := Lib.hid x4
  have X5 := Lib.hid x5
  have Z5 := Lib.hid z5
  have I := Lib.hid (show (-1 ≤ idxF day3L (sl s.data.toList 0 3) ∧ idxF day3L (sl s.data.toList 0 3) ≤ 6) ∧ (-1 ≤ idxF monL (sl s.data.toList 8 11) ∧ idxF monL (sl s.data.toList 8 11) ≤ 11) from ⟨⟨i2, by omega⟩, ⟨i4, by omega⟩⟩)
  have e29 : (((s.size : Nat) : Int) == 29) = true := by rw [hl]; rfl
  have q7 : (((s[7]'(Nat.lt_of_lt_of_le (by decide) hls)).toNat : Int) == 32) = true := by rw [t7]; rfl
  have q11 : (((s[11]'(Nat.lt_of_lt_of_le (by decide) hls)).toNat : Int) == 32) = true := by rw [t11]; rfl
  have q16 : (((s[16]'(Nat.lt_of_lt_of_le (by decide) hls)).toNat : Int) == 32) = true := by rw [t16]; rfl
  have b3 : (3 : Int) ≤ (s.size : Int) := by omega
  have b11 : (11 : Int) ≤ (s.size : Int) := by omega
  have b25 : (25 : Int) ≤ (s.size : Int) := by omega
  have HL := Lib.hid hl
  clear D1 D2 a1 a2 a3 a4 a5 x1 x2 x3 x4 x5 z1 z2 z5 i1 i2 i3 i4 e7 e12 hR ho1 ho2 t7 t11 t16 hl
  unfold PairPost
  cases o1 with
  | none =>
    have HN : Hid (R = (0, 80)) := Lib.hid (by rw [← HR.out])
    clear HR
    go_enter Tryd.func12, Tryd.ntmps12
    go_wp2_with fail
    refine (C1.out w).mono ?_
    rintro e w1 ⟨rfl, hw1⟩
    replace hw1 := hw1.symm
    subst hw1
    go_wp2_with fail
    refine (C2.out w).mono ?_
    rintro e w1 ⟨rfl, hw1⟩
    replace hw1 := hw1.symm
    subst hw1
    go_wp2
    go_ret2
    exact ⟨by rw [HN.out]; rfl, Below.refl _ _⟩
  | some d =>
    cases o2 with
    | none =>
      have HN : Hid (R = (0, 80)) := Lib.hid (by rw [← HR.out])
      clear HR
      go_enter Tryd.func12, Tryd.ntmps12
      go_wp2_with fail
      refine (C1.out w).mono ?_
      rintro e w1 ⟨rfl, hw1⟩
      replace hw1 := hw1.symm
      subst hw1
      go_wp2_with fail
      refine (C2.out w).mono ?_
      rintro e w1 ⟨rfl, hw1⟩
      replace hw1 := hw1.symm
      subst hw1
      go_wp2
      go_ret2
      exact ⟨by rw [HN.out]; rfl, Below.refl _ _⟩
    | some y =>
      have HN : Hid (R = madeF (idxF day3L (sl s.data.toList 0 3)) y (idxF monL (sl s.data.toList 8 11)) d (sl s.data.toList 17 25)) := Lib.hid (by rw [← HR.out])
      have CI1 : Hid (∀ (x : World) (g : Nat), RowAt x g day3L → Calls Tryd.prog 28 #[.slice (some ⟨g, 0, none⟩) 7 7, .string S3] x fun e w' => e = .returned (.int .i64 (idxF day3L (sl s.data.toList 0 3))) ∧ w' = x) := Lib.hid (fun x g h => by rw [← X3.out]; exact index_row h (by decide) 7 rfl S3)
      have CI2 : Hid (∀ (x : World) (g : Nat), RowAt x g monL → Calls Tryd.prog 28 #[.slice (some ⟨g, 0, none⟩) 12 12, .string S4] x fun e w' => e = .returned (.int .i64 (idxF monL (sl s.data.toList 8 11))) ∧ w' = x) := Lib.hid (fun x g h => by rw [← X4.out]; exact index_row h (by decide) 12 rfl S4)
      have CM : Hid (∀ (x : World), Calls Tryd.prog 27 #[.int .i64 (idxF day3L (sl s.data.toList 0 3)), .int .i64 y, .int .i64 (idxF monL (sl s.data.toList 8 11)), .int .i64 d, .string S5] x (PairPost (madeF (idxF day3L (sl s.data.toList 0 3)) y (idxF monL (sl s.data.toList 8 11)) d (sl s.data.toList 17 25)) x)) := Lib.hid (fun x => by rw [← X5.out]; exact refMade_any (idxF day3L (sl s.data.toList 0 3)) y (idxF monL (sl s.data.toList 8 11)) d S5 x I.out.1.1 I.out.1.2 l2 I.out.2.1 I.out.2.2 l1 Z5.out)
      obtain ⟨n1, hn1⟩ : ∃ n, idxF day3L (sl s.data.toList 0 3) = n := ⟨_, rfl⟩
      obtain ⟨n2, hn2⟩ : ∃ n, idxF monL (sl s.data.toList 8 11) = n := ⟨_, rfl⟩
      rw [hn1] at HN CI1 CM I
      rw [hn2] at HN CI2 CM I
      rw [← HN.out] at CM
      clear HR hn1 hn2
      simp only [Option.getD_some, Option.isSome_some] at C1 C2 l1 l2
      unfold PairPost at CM
      go_enter Tryd.func12, Tryd.ntmps12
      go_wp2_with fail
      refine (C1.out w).mono ?_
      rintro e w1 ⟨rfl, hw1⟩
      replace hw1 := hw1.symm
      subst hw1
      go_wp2_with fail
      refine (C2.out w).mono ?_
      rintro e w1 ⟨rfl, hw1⟩
      replace hw1 := hw1.symm
      subst hw1
      go_wp2
      go_region_held3 (fun _ => True) (exact trivial) (first
        | (go_simp
           go_at_call 23
           (with_reducible refine Calls.mono (days_row _) ?_)
           rintro e x1 ⟨rfl, hx1⟩
           have hr1 : RowAt x1 w.heap.size day3L := hx1.out.1)
        | (go_simp
           go_at_call 28
           (with_reducible refine Calls.mono (CI1.out _ _ hr1) ?_)
           rintro e x2 ⟨rfl, hx2⟩
           replace hx2 := hx2.symm
           subst hx2)
        | (go_simp
           go_at_call 25
           (with_reducible refine Calls.mono (months_row _) ?_)
           rintro e x3 ⟨rfl, hx3⟩
           have hr3 := hx3.out.1)
        | (go_simp
           go_at_call 28
           (with_reducible refine Calls.mono (CI2.out _ _ hr3) ?_)
           rintro e x4 ⟨rfl, hx4⟩
           replace hx4 := hx4.symm
           subst hx4)
        | (go_simp
           go_at_call 27
           (with_reducible refine Calls.mono (CM.out _) ?_)
           rintro e x5 ⟨rfl, hx5⟩)
        | fail)
      have hf1 : Below w.heap.size w x1 := (Below.drew (Below.refl _ _)).trans hx1.out.2
      have hf3 := hf1.trans (hx3.out.2.mono hf1.size)
      have HF := Lib.hid (hf3.trans (hx5.mono hf3.size))
      clear hf1 hf3 hx5 hr1 hr3
      go_wp2
      go_ret2
      exact ⟨rfl, HF.out⟩
end Go.Proofs.YtfnpncmdeimcbaaDoor
