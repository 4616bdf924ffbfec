/-
  Each byte, escaped, is told alike, with digits of either kind; cut short it isn't one.
-/
import Derived.Test.YtokgpmelhmaokaaDoorNormKnown
import Derived.Test.YtokgpmelhmaokaaDoorHandedBoth
import Derived.OpenShut
namespace Go.Proofs.YtokgpmelhmaokaaDoor
open Go.RowKit HeadMath NormMath

def upDigits : ByteArray := ⟨#[48, 49, 50, 51, 52, 53, 54, 55, 56, 57, 65, 66, 67, 68, 69, 70]⟩
def lowDigits : ByteArray := ⟨#[48, 49, 50, 51, 52, 53, 54, 55, 56, 57, 97, 98, 99, 100, 101, 102]⟩
theorem up_one (a : Nat) (h : a < 16) : ∃ x, (upDigits.extract a (a + 1)).data.toList = [x] ∧ hexV x = some a := by
  have H : ∀ a : Fin 16, (upDigits.extract a.1 (a.1 + 1)).data.toList = [digit a.1] ∧ hexV (digit a.1) = some a.1 := by decide +kernel
  exact ⟨_, H ⟨a, h⟩⟩
def lowDigit (n : Nat) : UInt8 := if n < 10 then UInt8.ofNat (48 + n) else UInt8.ofNat (87 + n)
theorem low_one (a : Nat) (h : a < 16) : ∃ x, (lowDigits.extract a (a + 1)).data.toList = [x] ∧ hexV x = some a := by
  have H : ∀ a : Fin 16, (lowDigits.extract a.1 (a.1 + 1)).data.toList = [lowDigit a.1] ∧ hexV (lowDigit a.1) = some a.1 := by decide +kernel
  exact ⟨_, H ⟨a, h⟩⟩
theorem esc_six {x y : UInt8} {a b : Nat} (hx : hexV x = some a) (hy : hexV y = some b) : ∃ t, esc [47, 120, 37, x, y, 121] = some t := by
  rw [esc_cons _ (by decide), esc_cons _ (by decide), esc_pair, escPair_some hx hy]
  exact ⟨_, rfl⟩
theorem esc_four (x : UInt8) : esc [47, 120, 37, x] = none := by
  rw [esc_cons _ (by decide), esc_cons _ (by decide), esc_short (by simp)]
  rfl
theorem c_facts (c : UInt8) : ∃ a b : Nat, a < 16 ∧ b < 16 ∧ (c.toNat : Int) / 16 = (a : Int) ∧ Go.bits .and .u8 (c.toNat : Int) 15 = (b : Int) := by
  have hc := c.toNat_lt
  refine ⟨c.toNat / 16, c.toNat % 16, by omega, by omega, by omega, ?_⟩
  have e : (c.toNat : Int) = 16 * ((c.toNat / 16 : Nat) : Int) + ((c.toNat % 16 : Nat) : Int) := by omega
  rw [e]
  exact and_nat _ _ (by omega) (by omega)
theorem one_size {x : ByteArray} {c : UInt8} (h : x.data.toList = [c]) : x.size = 1 := by rw [← size_list, h]; rfl
set_option maxRecDepth 100000 in
set_option maxHeartbeats 8000000 in
theorem bytes_up (c : UInt8) (w : World) (m : Int) (hm : w.cell? ⟨1, 0, none⟩ = some (.int .i64 m)) : Calls Tryd.prog 6 #[.int .u8 c.toNat, .bool false] w fun e w' => e = .returned (.bool true) ∧ Below w.heap.size w w' := by
  obtain ⟨a, b, ha, hb, e1, e2⟩ := c_facts c
  obtain ⟨x, hx, hxv⟩ := up_one a ha
  obtain ⟨y, hy, hyv⟩ := up_one b hb
  obtain ⟨X, hX⟩ : ∃ X, ({ data := #[48, 49, 50, 51, 52, 53, 54, 55, 56, 57, 65, 66, 67, 68, 69, 70] } : ByteArray).extract a (a + 1) = X := ⟨_, rfl⟩
  obtain ⟨Y, hY⟩ : ∃ Y, ({ data := #[48, 49, 50, 51, 52, 53, 54, 55, 56, 57, 65, 66, 67, 68, 69, 70] } : ByteArray).extract b (b + 1) = Y := ⟨_, rfl⟩
  have hX' : upDigits.extract a (a + 1) = X := hX
  have hY' : upDigits.extract b (b + 1) = Y := hY
  rw [hX'] at hx
  rw [hY'] at hy
  have hXz := one_size hx
  have hYz := one_size hy
  obtain ⟨S, hS⟩ : ∃ S, (⟨#[47, 120, 37]⟩ : ByteArray) ++ X ++ Y ++ (⟨#[121]⟩ : ByteArray) = S := ⟨_, rfl⟩
  have hSl : S.data.toList = [47, 120, 37, x, y, 121] := by rw [← hS]; simp [ByteArray.data_append, hx, hy]
  have hSz : S.size = 6 := by rw [← size_list, hSl]; rfl
  obtain ⟨C, hC⟩ : ∃ C, S.extract 0 4 = C := ⟨_, rfl⟩
  have hCl : C.data.toList = [47, 120, 37, x] := by rw [← hC, Lib.extract_data, hSl]; rfl
  have hCz : C.size = 4 := by rw [← size_list, hCl]; rfl
  obtain ⟨t, ht⟩ := esc_six hxv hyv
  rw [← hSl] at ht
  have hn := esc_four x
  rw [← hCl] at hn
  have HE := Lib.hid (escV_some ht)
  have HF := Lib.hid (escV_none hn)
  obtain ⟨V, hV⟩ : ∃ V : ByteArray, (⟨t.toArray⟩ : ByteArray) = V := ⟨_, rfl⟩
  rw [hV] at HE
  have ia : (a : Int) < 16 := by omega
  have ib : (b : Int) < 16 := by omega
  have s1 := fun w => escapes_any S w (by omega)
  have s2 := fun w => refEscapes_any S w (by omega)
  have s3 := fun w => escapes_any C w (by omega)
  have ck := known_any w m hm
  clear hX' hY' hx hy hxv hyv hSl hCl ht hn hV hm
  go_enter Tryd.func6, Tryd.ntmps6
  go_wp2_with fail
  refine ck.mono ?_
  rintro e w1 ⟨rfl, hb1⟩
  clear ck
  go_wp2
  go_region
  have hb1d := hb1.trans (((Spares.refl nowhere w1).drew.below0).mono hb1.size)
  go_wp2_with fail
  refine (s1 _).mono ?_
  rintro e w2 ⟨rfl, hb2⟩
  rw [HE.out]
  replace hb2 := hb1d.trans (hb2.mono hb1d.size)
  clear hb1d
  go_wp2_with fail
  refine (s2 _).mono ?_
  rintro e w3 ⟨rfl, hb3⟩
  rw [HE.out]
  replace hb3 := hb2.trans (hb3.mono hb2.size)
  clear hb2
  go_wp2_with fail
  refine (s3 _).mono ?_
  rintro e w4 ⟨rfl, hb4⟩
  rw [HF.out]
  replace hb4 := hb3.trans (hb4.mono hb3.size)
  clear hb3
  go_wp2
  go_ret
  exact ⟨rfl, hb4⟩
set_option maxRecDepth 100000 in
set_option maxHeartbeats 8000000 in
theorem bytes_low (c : UInt8) (w : World) (m : Int) (hm : w.cell? ⟨1, 0, none⟩ = some (.int .i64 m)) : Calls Tryd.prog 6 #[.int .u8 c.toNat, .bool true] w fun e w' => e = .returned (.bool true) ∧ Below w.heap.size w w' := by
  obtain ⟨a, b, ha, hb, e1, e2⟩ := c_facts c
  obtain ⟨x, hx, hxv⟩ := low_one a ha
  obtain ⟨y, hy, hyv⟩ := low_one b hb
  obtain ⟨X, hX⟩ : ∃ X, ({ data := #[48, 49, 50, 51, 52, 53, 54, 55, 56, 57, 97, 98, 99, 100, 101, 102] } : ByteArray).extract a (a + 1) = X := ⟨_, rfl⟩
  obtain ⟨Y, hY⟩ : ∃ Y, ({ data := #[48, 49, 50, 51, 52, 53, 54, 55, 56, 57, 97, 98, 99, 100, 101, 102] } : ByteArray).extract b (b + 1) = Y := ⟨_, rfl⟩
  have hX' : lowDigits.extract a (a + 1) = X := hX
  have hY' : lowDigits.extract b (b + 1) = Y := hY
  rw [hX'] at hx
  rw [hY'] at hy
  have hXz := one_size hx
  have hYz := one_size hy
  obtain ⟨S, hS⟩ : ∃ S, (⟨#[47, 120, 37]⟩ : ByteArray) ++ X ++ Y ++ (⟨#[121]⟩ : ByteArray) = S := ⟨_, rfl⟩
  have hSl : S.data.toList = [47, 120, 37, x, y, 121] := by rw [← hS]; simp [ByteArray.data_append, hx, hy]
  have hSz : S.size = 6 := by rw [← size_list, hSl]; rfl
  obtain ⟨C, hC⟩ : ∃ C, S.extract 0 4 = C := ⟨_, rfl⟩
  have hCl : C.data.toList = [47, 120, 37, x] := by rw [← hC, Lib.extract_data, hSl]; rfl
  have hCz : C.size = 4 := by rw [← size_list, hCl]; rfl
  obtain ⟨t, ht⟩ := esc_six hxv hyv
  rw [← hSl] at ht
  have hn := esc_four x
  rw [← hCl] at hn
  have HE := Lib.hid (escV_some ht)
  have HF := Lib.hid (escV_none hn)
  obtain ⟨V, hV⟩ : ∃ V : ByteArray, (⟨t.toArray⟩ : ByteArray) = V := ⟨_, rfl⟩
  rw [hV] at HE
  have ia : (a : Int) < 16 := by omega
  have ib : (b : Int) < 16 := by omega
  have s1 := fun w => escapes_any S w (by omega)
  have s2 := fun w => refEscapes_any S w (by omega)
  have s3 := fun w => escapes_any C w (by omega)
  have ck := known_any w m hm
  clear hX' hY' hx hy hxv hyv hSl hCl ht hn hV hm
  go_enter Tryd.func6, Tryd.ntmps6
  go_wp2_with fail
  refine ck.mono ?_
  rintro e w1 ⟨rfl, hb1⟩
  clear ck
  go_wp2
  go_region
  have hb1d := hb1.trans (((Spares.refl nowhere w1).drew.below0).mono hb1.size)
  go_wp2_with fail
  refine (s1 _).mono ?_
  rintro e w2 ⟨rfl, hb2⟩
  rw [HE.out]
  replace hb2 := hb1d.trans (hb2.mono hb1d.size)
  clear hb1d
  go_wp2_with fail
  refine (s2 _).mono ?_
  rintro e w3 ⟨rfl, hb3⟩
  rw [HE.out]
  replace hb3 := hb2.trans (hb3.mono hb2.size)
  clear hb2
  go_wp2_with fail
  refine (s3 _).mono ?_
  rintro e w4 ⟨rfl, hb4⟩
  rw [HF.out]
  replace hb4 := hb3.trans (hb4.mono hb3.size)
  clear hb3
  go_wp2
  go_ret
  exact ⟨rfl, hb4⟩
theorem normBytes_any (c : UInt8) (low : Bool) (w : World) (m : Int) (hm : w.cell? ⟨1, 0, none⟩ = some (.int .i64 m)) : Calls Tryd.prog 6 #[.int .u8 c.toNat, .bool low] w fun e w' => e = .returned (.bool true) ∧ Below w.heap.size w w' := by
  cases low with
  | false => exact bytes_up c w m hm
  | true => exact bytes_low c w m hm
theorem normBytes_of (c : Int) (hc : (Lit.int .u8 c).wf = true) (low : Bool) (w : World) (m : Int) (hm : w.cell? ⟨1, 0, none⟩ = some (.int .i64 m)) : Calls Tryd.prog 6 #[.int .u8 c, .bool low] w fun e w' => e = .returned (.bool true) ∧ Below w.heap.size w w' := by
  have hb : 0 ≤ c ∧ c ≤ 255 := by have := bounds_u8 hc; omega
  have e : c = ((UInt8.ofNat c.toNat).toNat : Int) := by rw [UInt8.toNat_ofNat']; omega
  rw [e]
  exact normBytes_any _ low w m hm
end Go.Proofs.YtokgpmelhmaokaaDoor
