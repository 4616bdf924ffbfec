/-
  CodeSums.
-/
import Derived.Test.YtekdkaiammebnaaDoorCodeKnown
import Derived.Test.YtekdkaiammebnaaDoorLaidInts
import Derived.Test.YtekdkaiammebnaaDoorRows
namespace Go.Proofs.YtekdkaiammebnaaDoor
open Go.RowKit CodeMath CrcMath

theorem steps_of_laid {W : World} (h : laidMetH Tryd.prog [("ambry/code.crcSteps", Rows.laid_ambry_code_crcSteps)] W) : Steps W := by
  rw [Go.MakeChecks.laidMetH_plain _ _ _ (by rfl)] at h
  have := ints_of_laid (n := "ambry/code.crcSteps") (g := 0) (t := 68) (e := 50) (k := .u32) (m := 16) (zs := tab.map fun (n : Nat) => (n : Int)) h (by simp [Rows.laid_ambry_code_crcSteps, tab]) (by kernel_rfl) (by kernel_rfl) Tryd.underlying68 (by kernel_rfl) Tryd.underlying50
  intro r hr
  refine (this r (by simpa [tab] using hr)).trans ?_
  congr 2
  rw [List.getD_eq_getElem?_getD, List.getD_eq_getElem?_getD, List.getElem?_map]
  rw [List.getElem?_eq_getElem (by simpa [tab] using hr)]
  rfl
theorem sums_any (l : List UInt8) (a : Option Addr) (cap : Nat) (w : World) (hT : Steps w) (hin : BytesAt w a l) (hle : l.length ≤ maxLen) :
    Calls Tryd.prog 5 #[.slice a l.length cap] w (Knows w) := by
  unfold maxLen at hle
  have HT := Lib.hid hT
  have HIN := Lib.hid hin
  clear hT hin
  by_cases h5 : (5000 : Int) < (l.length : Int)
  · go_enter Tryd.func5, Tryd.ntmps5
    go_wp2_with fail
    refine (known_any _ HT.out).mono ?_
    rintro e w1 ⟨rfl, hs1⟩
    go_wp2
    go_ret
    exact ⟨rfl, hs1⟩
  · have h5' : decide ((5000 : Int) < (l.length : Int)) = false := by simpa using h5
    have hle' : l.length ≤ 140737488351232 := by omega
    obtain ⟨x, hx⟩ : ∃ x : Int, (crcF l : Int) = x := ⟨_, rfl⟩
    have HX := Lib.hid hx
    clear h5 hle hx
    go_enter Tryd.func5, Tryd.ntmps5
    go_wp2_with fail
    refine (known_any _ HT.out).mono ?_
    rintro e w1 ⟨rfl, hs1⟩
    have HS1 := Lib.hid hs1
    clear hs1
    go_wp2_with fail
    refine (crc_any l a cap _ (HT.out.spares HS1.out (fun h => h)) (HIN.out.spares HS1.out (fun _ _ _ h => h)) hle').mono ?_
    rw [HX.out]
    rintro e w2 ⟨rfl, rfl⟩
    go_wp2_with fail
    refine (refCrc_any l a cap _ (HIN.out.spares HS1.out (fun _ _ _ h => h)) hle').mono ?_
    rw [HX.out]
    rintro e w3 ⟨rfl, rfl⟩
    go_wp2
    go_ret
    exact ⟨by simp, HS1.out⟩
end Go.Proofs.YtekdkaiammebnaaDoor
