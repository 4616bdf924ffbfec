/-
  date.Text and date.Parse.
-/
import Derived.Test.YtfnpncmdeimcbaaDoorDateParse
import Derived.Test.YtfnpncmdeimcbaaDoorDateParseL
import Derived.Test.YtfnpncmdeimcbaaDoorDateParseO
namespace Go.Proofs.YtfnpncmdeimcbaaDoor
open Go.RowKit DateMath

def clampN (t : Int) : Nat := (min (max t 0) 253402300799).toNat
theorem clampN_le (t : Int) : clampN t ≤ maxT := by unfold clampN maxT; omega
theorem clampN_int (t : Int) : ((clampN t : Nat) : Int) = min (max t 0) 253402300799 := by unfold clampN; omega
set_option maxRecDepth 100000 in
set_option maxHeartbeats 4000000 in
theorem text_anyD (t : Int) (w : World) (h1 : TabP w) (h2 : TabS w) : Calls Tryd.prog 9 #[.int .i64 t] w fun e w' => e = .returned (.string (arrD (plainT (momOf (clampN t))))) ∧ Below w.heap.size w w' := by
  obtain ⟨w0, hw0⟩ : ∃ w0, w.alloc (.cells cal0 50) = w0 := ⟨_, rfl⟩
  have hcn := cal_new w
  have htn := tabs_new h1 h2
  have hs0 : Spares nowhere w (w.alloc (.cells cal0 50)) := (Spares.refl _ _).alloc _
  rw [hw0] at hcn htn hs0
  have hle := clampN_le t
  have hci := clampN_int t
  obtain ⟨n, hn⟩ : ∃ n, clampN t = n := ⟨_, rfl⟩
  rw [hn] at hle hci ⊢
  have CM := Lib.hid (fun x => moment_any n x hle)
  have CP := Lib.hid (fun x (hx : Spares nowhere w0 x) => plain_any (momOf n) w.heap.size x (mom_ok n hle) (.inl (CalIs.spares hcn hx (fun h => h))) (htn.below hx.below0))
  have HCI : Hid (min (max t 0) 253402300799 = (n : Int)) := Lib.hid hci.symm
  have HW0 := Lib.hid hw0
  have HS0 := Lib.hid hs0
  clear h1 h2 hw0 hcn htn hs0 hle hci hn
  go_enter Tryd.func9, Tryd.ntmps9
  go_wp2_with fail
  change Calls _ _ _ (w.alloc (.cells cal0 50)) _
  rw [HW0.out]
  have hci := HCI.out
  first | rw [hci] | (rw [show (if 253402300799 < (if 0 < t then t else 0) then (253402300799 : Int) else (if 0 < t then t else 0)) = (n : Int) from by rw [← hci]; omega]) | trace_state
  clear hci
  refine (CM.out w0).mono ?_
  rintro e x ⟨rfl, hs1⟩
  have HS1 := Lib.hid hs1
  clear hs1
  go_wp2_with fail
  refine (CP.out x HS1.out).mono ?_
  rintro e u ⟨rfl, _, hs2⟩
  have HF := Lib.hid (HS0.out.below0.trans (((HS1.out.mono (F' := fun b => b = w.heap.size) (fun _ h => by cases h)).trans hs2).below HS0.out.size (fun j hj e => by omega)))
  clear hs2
  go_wp2
  go_ret
  exact ⟨rfl, HF.out⟩
theorem index_up : ∀ (l : Bs) (c : UInt8), Lib.indexByte l c < l.length + 1
  | [], _ => by simp [Lib.indexByte]
  | b :: l, c => by
    have ih := index_up l c
    unfold Lib.indexByte
    rw [List.length_cons]
    split
    · omega
    · split <;> omega
set_option maxRecDepth 100000 in
set_option maxHeartbeats 8000000 in
theorem parse_other (s : ByteArray) (w : World) (hsz : s.size ≤ 140737488351232) (h1 : ¬ (s.size = 29 ∧ Lib.indexByte s.data.toList 44 = 3)) (h2 : ¬ (6 ≤ Lib.indexByte s.data.toList 44 ∧ (s.size : Int) = Lib.indexByte s.data.toList 44 + 24)) (h3 : ¬ (s.size = 24 ∧ Lib.indexByte s.data.toList 44 < 0)) :
    Calls Tryd.prog 10 #[.string s] w (ParseDPost s.data.toList w) := by
  have hll : s.data.toList.length = s.size := by simp
  have HR : Hid (readF s.data.toList = (0, 80)) := Lib.hid (read_other _ (by rw [hll]; exact h1) (by rw [hll]; exact h2) (by rw [hll]; exact h3))
  have hge := Lib.indexByte_ge s.data.toList 44
  have hup : Lib.indexByte s.data.toList 44 < s.size + 1 := by rw [← hll]; exact index_up _ _
  obtain ⟨K, hK⟩ : ∃ K, Lib.indexByte s.data.toList 44 = K := ⟨_, rfl⟩
  rw [hK] at h1 h2 h3 hge hup
  have HK := Lib.hid hK
  have a1 : (((s.size : Nat) : Int) == 29) = true → (K == 3) = false := fun h => by
    have : (s.size : Int) = 29 := by simpa using h
    simpa using (fun e => h1 ⟨by omega, e⟩)
  have a3 : (((s.size : Nat) : Int) == 24) = true → decide (K < 0) = false := fun h => by
    have : (s.size : Int) = 24 := by simpa using h
    exact decide_eq_false (fun e => h3 ⟨by omega, e⟩)
  have a2 : decide (6 ≤ K) = true → (((s.size : Nat) : Int) == K + 24) = false := fun h => by
    have : 6 ≤ K := of_decide_eq_true h
    simpa using (fun e => h2 ⟨this, e⟩)
  have HA1 := Lib.hid a1
  have HA2 := Lib.hid a2
  have HA3 := Lib.hid a3
  unfold ParseDPost
  clear hK h1 h2 h3 hll a1 a2 a3
  obtain ⟨b1, hb1⟩ : ∃ b, (((s.size : Nat) : Int) == 29) = b := ⟨_, rfl⟩
  obtain ⟨b2, hb2⟩ : ∃ b, decide (6 ≤ K) = b := ⟨_, rfl⟩
  obtain ⟨b3, hb3⟩ : ∃ b, (((s.size : Nat) : Int) == 24) = b := ⟨_, rfl⟩
  rw [hb1] at HA1
  rw [hb2] at HA2
  rw [hb3] at HA3
  cases b1 <;> cases b2 <;> cases b3
  all_goals
    first | have e1 := HA1.out rfl | skip
    first | have e2 := HA2.out rfl | skip
    first | have e3 := HA3.out rfl | skip
    clear HA1 HA2 HA3
    go_enter Tryd.func10, Tryd.ntmps10
    go_wp2_with fail
    refine (Tryd.strings_IndexByte _ _ _).mono ?_
    rintro e w' ⟨rfl, hw'⟩
    rw [show ((44 : Int)).toNat.toUInt8 = 44 from rfl, HK.out]
    replace hw' := hw'.symm
    subst hw'
    go_wp2
    go_ret2
    exact ⟨by rw [HR.out]; rfl, (Below.refl _ _).alloc (Nat.le_refl _) _⟩
theorem parse_anyD (s : ByteArray) (w : World) (h1 : TabP w) (h2 : TabS w) (hs : s.size ≤ 140737488351232) : Calls Tryd.prog 10 #[.string s] w (ParseDPost s.data.toList w) := by
  by_cases a : s.size = 29 ∧ Lib.indexByte s.data.toList 44 = 3
  · exact parse_plain s w h1 h2 a.1 a.2
  by_cases b : 6 ≤ Lib.indexByte s.data.toList 44 ∧ (s.size : Int) = Lib.indexByte s.data.toList 44 + 24
  · obtain ⟨k, hk⟩ : ∃ k : Nat, Lib.indexByte s.data.toList 44 = k := ⟨(Lib.indexByte s.data.toList 44).toNat, by omega⟩
    rw [hk] at b
    exact parse_long s w h1 h2 k (by omega) (by omega) (by omega) hk
  by_cases c : s.size = 24 ∧ Lib.indexByte s.data.toList 44 < 0
  · have := Lib.indexByte_ge s.data.toList 44
    exact parse_old s w h1 h2 c.1 (by omega)
  exact parse_other s w hs a b c
end Go.Proofs.YtfnpncmdeimcbaaDoor
