/-
  DateForms.
-/
import Derived.Test.YtfnpncmdeimcbaaDoorDateLawTexts
import Derived.Test.YtfnpncmdeimcbaaDoorDateFormsMath
import Derived.Deep.DeepCutAuto
import Derived.Test.YtfnpncmdeimcbaaDoorStepTo
namespace Go.Proofs.YtfnpncmdeimcbaaDoor
open Go.RowKit DateMath

theorem arr_extF (l : Bs) (a b : Nat) : (arrD l).extract a b = arrD (sl l a b) := ByteArray.ext (by
  unfold arrD
  rw [← Array.toList_inj]
  simp [sl])
theorem rows_at (w : World) (V : Nat) (hV : V ≤ 6) : ((w.alloc (.cells #[.string ⟨#[83, 117, 110, 100, 97, 121]⟩, .string ⟨#[77, 111, 110, 100, 97, 121]⟩, .string ⟨#[84, 117, 101, 115, 100, 97, 121]⟩, .string ⟨#[87, 101, 100, 110, 101, 115, 100, 97, 121]⟩, .string ⟨#[84, 104, 117, 114, 115, 100, 97, 121]⟩, .string ⟨#[70, 114, 105, 100, 97, 121]⟩, .string ⟨#[83, 97, 116, 117, 114, 100, 97, 121]⟩] 9)).alloc (.cells #[.string ⟨#[83, 117, 110]⟩, .string ⟨#[77, 111, 110]⟩, .string ⟨#[84, 117, 101]⟩, .string ⟨#[87, 101, 100]⟩, .string ⟨#[84, 104, 117]⟩, .string ⟨#[70, 114, 105]⟩, .string ⟨#[83, 97, 116]⟩] 9)).cell? ⟨w.heap.size, V, none⟩ = some (.string (arrD (dayL.getD V []))) ∧ ((w.alloc (.cells #[.string ⟨#[83, 117, 110, 100, 97, 121]⟩, .string ⟨#[77, 111, 110, 100, 97, 121]⟩, .string ⟨#[84, 117, 101, 115, 100, 97, 121]⟩, .string ⟨#[87, 101, 100, 110, 101, 115, 100, 97, 121]⟩, .string ⟨#[84, 104, 117, 114, 115, 100, 97, 121]⟩, .string ⟨#[70, 114, 105, 100, 97, 121]⟩, .string ⟨#[83, 97, 116, 117, 114, 100, 97, 121]⟩] 9)).alloc (.cells #[.string ⟨#[83, 117, 110]⟩, .string ⟨#[77, 111, 110]⟩, .string ⟨#[84, 117, 101]⟩, .string ⟨#[87, 101, 100]⟩, .string ⟨#[84, 104, 117]⟩, .string ⟨#[70, 114, 105]⟩, .string ⟨#[83, 97, 116]⟩] 9)).cell? ⟨w.heap.size + 1, V, none⟩ = some (.string (arrD (day3L.getD V []))) := by
  have h1 : ((w.alloc (.cells #[.string ⟨#[83, 117, 110, 100, 97, 121]⟩, .string ⟨#[77, 111, 110, 100, 97, 121]⟩, .string ⟨#[84, 117, 101, 115, 100, 97, 121]⟩, .string ⟨#[87, 101, 100, 110, 101, 115, 100, 97, 121]⟩, .string ⟨#[84, 104, 117, 114, 115, 100, 97, 121]⟩, .string ⟨#[70, 114, 105, 100, 97, 121]⟩, .string ⟨#[83, 97, 116, 117, 114, 100, 97, 121]⟩] 9)).alloc (.cells #[.string ⟨#[83, 117, 110]⟩, .string ⟨#[77, 111, 110]⟩, .string ⟨#[84, 117, 101]⟩, .string ⟨#[87, 101, 100]⟩, .string ⟨#[84, 104, 117]⟩, .string ⟨#[70, 114, 105]⟩, .string ⟨#[83, 97, 116]⟩] 9)).heap[w.heap.size]? = some (.cells #[.string ⟨#[83, 117, 110, 100, 97, 121]⟩, .string ⟨#[77, 111, 110, 100, 97, 121]⟩, .string ⟨#[84, 117, 101, 115, 100, 97, 121]⟩, .string ⟨#[87, 101, 100, 110, 101, 115, 100, 97, 121]⟩, .string ⟨#[84, 104, 117, 114, 115, 100, 97, 121]⟩, .string ⟨#[70, 114, 105, 100, 97, 121]⟩, .string ⟨#[83, 97, 116, 117, 114, 100, 97, 121]⟩] 9 (0, 0)) := by
    have e := heap_alloc_new w (.cells #[.string ⟨#[83, 117, 110, 100, 97, 121]⟩, .string ⟨#[77, 111, 110, 100, 97, 121]⟩, .string ⟨#[84, 117, 101, 115, 100, 97, 121]⟩, .string ⟨#[87, 101, 100, 110, 101, 115, 100, 97, 121]⟩, .string ⟨#[84, 104, 117, 114, 115, 100, 97, 121]⟩, .string ⟨#[70, 114, 105, 100, 97, 121]⟩, .string ⟨#[83, 97, 116, 117, 114, 100, 97, 121]⟩] 9)
    exact (((Below.refl _ _).alloc (Nat.le_refl _) _).block _ (Array.getElem?_eq_some_iff.1 e).1).trans e
  have h2 : ((w.alloc (.cells #[.string ⟨#[83, 117, 110, 100, 97, 121]⟩, .string ⟨#[77, 111, 110, 100, 97, 121]⟩, .string ⟨#[84, 117, 101, 115, 100, 97, 121]⟩, .string ⟨#[87, 101, 100, 110, 101, 115, 100, 97, 121]⟩, .string ⟨#[84, 104, 117, 114, 115, 100, 97, 121]⟩, .string ⟨#[70, 114, 105, 100, 97, 121]⟩, .string ⟨#[83, 97, 116, 117, 114, 100, 97, 121]⟩] 9)).alloc (.cells #[.string ⟨#[83, 117, 110]⟩, .string ⟨#[77, 111, 110]⟩, .string ⟨#[84, 117, 101]⟩, .string ⟨#[87, 101, 100]⟩, .string ⟨#[84, 104, 117]⟩, .string ⟨#[70, 114, 105]⟩, .string ⟨#[83, 97, 116]⟩] 9)).heap[w.heap.size + 1]? = some (.cells #[.string ⟨#[83, 117, 110]⟩, .string ⟨#[77, 111, 110]⟩, .string ⟨#[84, 117, 101]⟩, .string ⟨#[87, 101, 100]⟩, .string ⟨#[84, 104, 117]⟩, .string ⟨#[70, 114, 105]⟩, .string ⟨#[83, 97, 116]⟩] 9 (0, 0)) := by
    have e := heap_alloc_new (w.alloc (.cells #[.string ⟨#[83, 117, 110, 100, 97, 121]⟩, .string ⟨#[77, 111, 110, 100, 97, 121]⟩, .string ⟨#[84, 117, 101, 115, 100, 97, 121]⟩, .string ⟨#[87, 101, 100, 110, 101, 115, 100, 97, 121]⟩, .string ⟨#[84, 104, 117, 114, 115, 100, 97, 121]⟩, .string ⟨#[70, 114, 105, 100, 97, 121]⟩, .string ⟨#[83, 97, 116, 117, 114, 100, 97, 121]⟩] 9)) (.cells #[.string ⟨#[83, 117, 110]⟩, .string ⟨#[77, 111, 110]⟩, .string ⟨#[84, 117, 101]⟩, .string ⟨#[87, 101, 100]⟩, .string ⟨#[84, 104, 117]⟩, .string ⟨#[70, 114, 105]⟩, .string ⟨#[83, 97, 116]⟩] 9)
    have hz : (w.alloc (.cells #[.string ⟨#[83, 117, 110, 100, 97, 121]⟩, .string ⟨#[77, 111, 110, 100, 97, 121]⟩, .string ⟨#[84, 117, 101, 115, 100, 97, 121]⟩, .string ⟨#[87, 101, 100, 110, 101, 115, 100, 97, 121]⟩, .string ⟨#[84, 104, 117, 114, 115, 100, 97, 121]⟩, .string ⟨#[70, 114, 105, 100, 97, 121]⟩, .string ⟨#[83, 97, 116, 117, 114, 100, 97, 121]⟩] 9)).heap.size = w.heap.size + 1 := by simp
    rw [hz] at e
    exact e
  rw [Lib.cell_of_heap h1, Lib.cell_of_heap h2]
  match V, hV with
  | 0, _ | 1, _ | 2, _ | 3, _ | 4, _ | 5, _ | 6, _ => exact ⟨rfl, rfl⟩
theorem day_size (V : Nat) (hV : V ≤ 6) : (dayL.getD V []).length ≤ 9 ∧ (day3L.getD V []).length = 3 := by
  match V, hV with
  | 0, _ | 1, _ | 2, _ | 3, _ | 4, _ | 5, _ | 6, _ => exact ⟨by decide, by decide⟩
theorem sp_size (n : Nat) : (sp2 n).length = 2 := by unfold sp2; split <;> rfl
theorem dig_two (n : Nat) (h : n ≤ 31) : ((dig (n / 10 % 10)).toNat == 48) = decide (n < 10) ∧ (n < 10 → sp2 n = 32 :: sl (two2 n) 1 2) ∧ (¬ n < 10 → sp2 n = two2 n) := by
  refine ⟨?_, ?_, ?_⟩
  · rw [dig_nat _ (by omega)]
    rw [Bool.eq_iff_iff]
    simp
    omega
  · intro h
    unfold sp2
    rw [if_pos h]
    show [32, dig n] = [32, dig (n % 10)]
    rw [Nat.mod_eq_of_lt h]
  · intro h
    unfold sp2
    rw [if_neg h]
theorem len31 {y m : Nat} : lenN y m ≤ 31 := by unfold lenN; split <;> first | omega | (have := leap_cases y; omega)
theorem parseD_on {w : World} (h1 : TabP w) (h2 : TabS w) (s : ByteArray) (hs : s.size ≤ 140737488351232) (x : World) (hx : Below w.heap.size w x) : Calls Tryd.prog 10 #[.string s] x fun e w' => e = .returned (.tuple #[.int .i64 (readF s.data.toList).1, .int .i64 (readF s.data.toList).2]) ∧ Below x.heap.size x w' := by
  have hxs : Spares nowhere w x := Below.spares hx (fun k hk => .inr hk)
  have c := parse_anyD s x (h1.spares hxs (fun h => h)) (h2.spares hxs (fun h => h)) hs
  unfold ParseDPost at c
  exact c
/-- The three texts, put together from the plain one's pieces. -/
structure Made (m : Mom) (V : Nat) (S X1 X2 X3 DV3 DVL S3 DD SP M3 CL YY Y2 U1 U2 U3 U4 U5 U6 U7 L1 L2 L3 L4 L5 L6 L7 L8 : ByteArray) : Prop where
  s3 : S.extract 3 29 = S3
  dd : S.extract 5 7 = DD
  m3 : S.extract 8 11 = M3
  cl : S.extract 17 25 = CL
  yy : S.extract 12 16 = YY
  y2 : S.extract 14 16 = Y2
  x1 : DV3 ++ S3 = X1
  u1 : DV3 ++ (⟨#[32]⟩ : ByteArray) = U1
  u2 : U1 ++ M3 = U2
  u3 : U2 ++ (⟨#[32]⟩ : ByteArray) = U3
  u4 : U3 ++ SP = U4
  u5 : U4 ++ (⟨#[32]⟩ : ByteArray) = U5
  u6 : U5 ++ CL = U6
  u7 : U6 ++ (⟨#[32]⟩ : ByteArray) = U7
  x2 : U7 ++ YY = X2
  l1 : DVL ++ (⟨#[44, 32]⟩ : ByteArray) = L1
  l2 : L1 ++ DD = L2
  l3 : L2 ++ (⟨#[45]⟩ : ByteArray) = L3
  l4 : L3 ++ M3 = L4
  l5 : L4 ++ (⟨#[45]⟩ : ByteArray) = L5
  l6 : L5 ++ Y2 = L6
  l7 : L6 ++ (⟨#[32]⟩ : ByteArray) = L7
  l8 : L7 ++ CL = L8
  x3 : L8 ++ (⟨#[32, 71, 77, 84]⟩ : ByteArray) = X3
  sizes : S3.size ≤ 30 ∧ DV3.size = 3 ∧ DVL.size ≤ 9 ∧ DD.size = 2 ∧ SP.size = 2 ∧ M3.size = 3 ∧ CL.size = 8 ∧ YY.size = 4 ∧ Y2.size = 2
  r1 : X1.data.toList = plainT (atW m V)
  r2 : X2.data.toList = oldT (atW m V)
  r3 : X3.data.toList = longT (atW m V)
theorem made_parts {m : Mom} {V : Nat} (o : OkM m) (hV : V ≤ 6) : ∃ S3 DD SP M3 CL YY Y2 U1 U2 U3 U4 U5 U6 U7 L1 L2 L3 L4 L5 L6 L7 L8 X1 X2 X3 : ByteArray,
    Made m V (arrD (plainT m)) X1 X2 X3 (arrD (day3L.getD V [])) (arrD (dayL.getD V [])) S3 DD SP M3 CL YY Y2 U1 U2 U3 U4 U5 U6 U7 L1 L2 L3 L4 L5 L6 L7 L8 ∧ DD = arrD (two2 m.day) ∧ SP = arrD (sp2 m.day) := by
  obtain ⟨p1, p2, p3, p4, p5, p6, p7⟩ := plain_parts o
  have pt := plain_tail o V
  have lm := mon_len m o.date.m1
  have ll := plain_len o
  obtain ⟨d9, d3⟩ := day_size V hV
  have h3 : day3L.getD V [] = (dayL.getD V []).take 3 := by
    match V, hV with
    | 0, _ | 1, _ | 2, _ | 3, _ | 4, _ | 5, _ | 6, _ => rfl
  obtain ⟨S, hS⟩ : ∃ x, arrD (plainT m) = x := ⟨_, rfl⟩
  obtain ⟨DV3, hD3⟩ : ∃ x, arrD (day3L.getD V []) = x := ⟨_, rfl⟩
  obtain ⟨DVL, hDL⟩ : ∃ x, arrD (dayL.getD V []) = x := ⟨_, rfl⟩
  obtain ⟨SP, hSP⟩ : ∃ x, arrD (sp2 m.day) = x := ⟨_, rfl⟩
  rw [hS, hD3, hDL]
  obtain ⟨S3, hS3⟩ : ∃ x, S.extract 3 29 = x := ⟨_, rfl⟩
  obtain ⟨DD, hDD⟩ : ∃ x, S.extract 5 7 = x := ⟨_, rfl⟩
  obtain ⟨M3, hM3⟩ : ∃ x, S.extract 8 11 = x := ⟨_, rfl⟩
  obtain ⟨CL, hCL⟩ : ∃ x, S.extract 17 25 = x := ⟨_, rfl⟩
  obtain ⟨YY, hYY⟩ : ∃ x, S.extract 12 16 = x := ⟨_, rfl⟩
  obtain ⟨Y2, hY2⟩ : ∃ x, S.extract 14 16 = x := ⟨_, rfl⟩
  obtain ⟨X1, hX1⟩ : ∃ x, DV3 ++ S3 = x := ⟨_, rfl⟩
  obtain ⟨U1, hU1⟩ : ∃ x, DV3 ++ (⟨#[32]⟩ : ByteArray) = x := ⟨_, rfl⟩
  obtain ⟨U2, hU2⟩ : ∃ x, U1 ++ M3 = x := ⟨_, rfl⟩
  obtain ⟨U3, hU3⟩ : ∃ x, U2 ++ (⟨#[32]⟩ : ByteArray) = x := ⟨_, rfl⟩
  obtain ⟨U4, hU4⟩ : ∃ x, U3 ++ SP = x := ⟨_, rfl⟩
  obtain ⟨U5, hU5⟩ : ∃ x, U4 ++ (⟨#[32]⟩ : ByteArray) = x := ⟨_, rfl⟩
  obtain ⟨U6, hU6⟩ : ∃ x, U5 ++ CL = x := ⟨_, rfl⟩
  obtain ⟨U7, hU7⟩ : ∃ x, U6 ++ (⟨#[32]⟩ : ByteArray) = x := ⟨_, rfl⟩
  obtain ⟨X2, hX2⟩ : ∃ x, U7 ++ YY = x := ⟨_, rfl⟩
  obtain ⟨L1, hL1⟩ : ∃ x, DVL ++ (⟨#[44, 32]⟩ : ByteArray) = x := ⟨_, rfl⟩
  obtain ⟨L2, hL2⟩ : ∃ x, L1 ++ DD = x := ⟨_, rfl⟩
  obtain ⟨L3, hL3⟩ : ∃ x, L2 ++ (⟨#[45]⟩ : ByteArray) = x := ⟨_, rfl⟩
  obtain ⟨L4, hL4⟩ : ∃ x, L3 ++ M3 = x := ⟨_, rfl⟩
  obtain ⟨L5, hL5⟩ : ∃ x, L4 ++ (⟨#[45]⟩ : ByteArray) = x := ⟨_, rfl⟩
  obtain ⟨L6, hL6⟩ : ∃ x, L5 ++ Y2 = x := ⟨_, rfl⟩
  obtain ⟨L7, hL7⟩ : ∃ x, L6 ++ (⟨#[32]⟩ : ByteArray) = x := ⟨_, rfl⟩
  obtain ⟨L8, hL8⟩ : ∃ x, L7 ++ CL = x := ⟨_, rfl⟩
  obtain ⟨X3, hX3⟩ : ∃ x, L8 ++ (⟨#[32, 71, 77, 84]⟩ : ByteArray) = x := ⟨_, rfl⟩
  have kS3 : S3 = arrD (sl (plainT m) 3 29) := by rw [← hS3, ← hS, arr_extF]
  have kDD : DD = arrD (two2 m.day) := by rw [← hDD, ← hS, arr_extF, p1]
  have kM3 : M3 = arrD (monT m) := by rw [← hM3, ← hS, arr_extF, p2]
  have kCL : CL = arrD (clockT m) := by rw [← hCL, ← hS, arr_extF, p3]
  have kYY : YY = arrD (two2 (m.year / 100) ++ two2 m.year) := by rw [← hYY, ← hS, arr_extF, p4]
  have kY2 : Y2 = arrD (two2 m.year) := by rw [← hY2, ← hS, arr_extF, p5]
  have t0 : (⟨#[32]⟩ : ByteArray) = arrD [32] := rfl
  have t1 : (⟨#[32, 71, 77, 84]⟩ : ByteArray) = arrD [32, 71, 77, 84] := rfl
  have t2 : (⟨#[44, 32]⟩ : ByteArray) = arrD [44, 32] := rfl
  have t3 : (⟨#[45]⟩ : ByteArray) = arrD [45] := rfl
  have q1 : X1 = arrD (plainT (atW m V)) := by rw [← hX1, ← hD3, kS3, arrD_app, pt, h3]
  have q2 : X2 = arrD (oldT (atW m V)) := by
    rw [← hX2, ← hU7, ← hU6, ← hU5, ← hU4, ← hU3, ← hU2, ← hU1, ← hD3, ← hSP, kM3, kCL, kYY, t0]
    simp only [arrD_app]
    congr 1
    show (_ : Bs) = (dayL.getD V []).take 3 ++ 32 :: (monT m ++ 32 :: (sp2 m.day ++ 32 :: (clockT m ++ 32 :: (two2 (m.year / 100) ++ two2 m.year))))
    rw [← h3]
    simp only [List.append_assoc, List.cons_append, List.nil_append]
  have q3 : X3 = arrD (longT (atW m V)) := by
    rw [← hX3, ← hL8, ← hL7, ← hL6, ← hL5, ← hL4, ← hL3, ← hL2, ← hL1, ← hDL, kDD, kM3, kCL, kY2, t0, t1, t2, t3]
    simp only [arrD_app]
    congr 1
    show (_ : Bs) = dayL.getD V [] ++ 44 :: 32 :: (two2 m.day ++ 45 :: (monT m ++ 45 :: (two2 m.year ++ 32 :: (clockT m ++ [32, 71, 77, 84]))))
    simp only [List.append_assoc, List.cons_append, List.nil_append]
  have z3 : (sl (plainT m) 3 29).length ≤ 30 := by
    unfold sl
    rw [List.length_take]
    omega
  have data : ∀ l : Bs, (arrD l).data.toList = l := fun l => rfl
  refine ⟨S3, DD, SP, M3, CL, YY, Y2, U1, U2, U3, U4, U5, U6, U7, L1, L2, L3, L4, L5, L6, L7, L8, X1, X2, X3, ⟨hS3, hDD, hM3, hCL, hYY, hY2, hX1, hU1, hU2, hU3, hU4, hU5, hU6, hU7, hX2, hL1, hL2, hL3, hL4, hL5, hL6, hL7, hL8, hX3, ?_, by rw [q1, data], by rw [q2, data], by rw [q3, data]⟩, kDD, hSP.symm⟩
  refine ⟨by rw [kS3, arrD_size]; exact z3, by rw [← hD3, arrD_size]; exact d3, by rw [← hDL, arrD_size]; exact d9, by rw [kDD, arrD_size]; rfl, by rw [← hSP, arrD_size]; exact sp_size _, by rw [kM3, arrD_size]; exact lm, by rw [kCL, arrD_size]; rfl, by rw [kYY, arrD_size]; rfl, by rw [kY2, arrD_size]; rfl⟩
end Go.Proofs.YtfnpncmdeimcbaaDoor
