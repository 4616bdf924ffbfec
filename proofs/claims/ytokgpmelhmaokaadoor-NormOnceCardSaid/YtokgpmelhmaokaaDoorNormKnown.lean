/-
  The statements' first test: constants.
-/
import Derived.Test.YtokgpmelhmaokaaDoorNormTarget
import Derived.Test.YtokgpmelhmaokaaDoorNormHost
namespace Go.Proofs.YtokgpmelhmaokaaDoor
open Go.RowKit HeadMath NormMath

def n1 : ByteArray := ⟨#[47, 97, 47, 46, 47, 98, 47, 46, 46, 47, 99, 37, 55, 101, 63, 120, 37, 50, 102]⟩
def n2 : ByteArray := ⟨#[47, 37, 120]⟩
def n3 : ByteArray := ⟨#[47, 97, 63, 98, 63, 99]⟩
def n4 : ByteArray := ⟨#[47, 97, 47, 46, 46]⟩
def n5 : ByteArray := ⟨#[72, 58, 56, 48]⟩
theorem known_target : targetV n1.data.toList = .tuple #[.string ⟨#[47, 97, 47, 99, 126, 63, 120, 37, 50, 70]⟩, .bool true] := by kernel_rfl
theorem known_bad : targetV n2.data.toList = .tuple #[.string ⟨#[]⟩, .bool false] := by kernel_rfl
theorem known_split : splitV n3 = .tuple #[.string ⟨#[47, 97]⟩, .string ⟨#[98, 63, 99]⟩, .bool true] := by kernel_rfl
theorem known_dots : (⟨(dotsF n4.data.toList).toArray⟩ : ByteArray) = ⟨#[47]⟩ := by kernel_rfl
theorem known_host : (⟨(hostF n5.data.toList).toArray⟩ : ByteArray) = ⟨#[104]⟩ := by kernel_rfl
set_option maxHeartbeats 4000000 in
theorem known_any (w : World) (m : Int) (hm : w.cell? ⟨1, 0, none⟩ = some (.int .i64 m)) : Calls Tryd.prog 7 #[] w fun e w' => e = .returned (.bool true) ∧ Below w.heap.size w w' := by
  have c1 := fun w h => target_any n1 w (by decide) m h
  have c2 := fun w h => target_any n2 w (by decide) m h
  have c3 := fun w => split_any n3 w (by decide)
  have c4 := fun w h => dots_any n4 w (by decide) m h
  have c5 := fun w => host_any n5 w (by decide)
  go_enter Tryd.func7, Tryd.ntmps7
  go_wp2_with fail
  refine (c1 _ hm).mono ?_
  rintro e w1 ⟨rfl, hb1⟩
  rw [known_target]
  go_wp2_with fail
  refine (c2 _ (max_stays hm hb1)).mono ?_
  rintro e w2 ⟨rfl, hb2⟩
  rw [known_bad]
  replace hb2 := hb1.trans (hb2.mono hb1.size)
  clear hb1
  go_wp2_with fail
  refine (c3 _).mono ?_
  rintro e w3 ⟨n3, rfl, hw3⟩
  rw [known_split]
  have hb3 := hb2.trans ((hw3 ▸ drew_below w2 n3 : Below w2.heap.size w2 w3).mono hb2.size)
  clear hb2 hw3
  go_wp2_with fail
  refine (c4 _ (max_stays hm hb3)).mono ?_
  rintro e w4 ⟨rfl, hb4⟩
  rw [known_dots]
  replace hb4 := hb3.trans (hb4.mono hb3.size)
  clear hb3
  go_wp2_with fail
  refine (c5 _).mono ?_
  rintro e w5 ⟨rfl, hb5⟩
  rw [known_host]
  replace hb5 := hb4.trans (hb5.mono hb4.size)
  clear hb4
  go_wp2
  go_ret
  exact ⟨rfl, hb5⟩
end Go.Proofs.YtokgpmelhmaokaaDoor
