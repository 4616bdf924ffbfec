/-
  A fragment's head, built of its parts.
-/
import Derived.Test.YtimpnnhadjfijaaDoorFragOpenMath
namespace Go.Proofs.YtimpnnhadjfijaaDoor
open Go.RowKit

theorem list32 {α : Type} {l : List α} (h : l.length = 32) : ∃ a0 a1 a2 a3 a4 a5 a6 a7 a8 a9 a10 a11 a12 a13 a14 a15 a16 a17 a18 a19 a20 a21 a22 a23 a24 a25 a26 a27 a28 a29 a30 a31,
    l = [a0, a1, a2, a3, a4, a5, a6, a7, a8, a9, a10, a11, a12, a13, a14, a15, a16, a17, a18, a19, a20, a21, a22, a23, a24, a25, a26, a27, a28, a29, a30, a31] := by
  match l, h with
  | [a0, a1, a2, a3, a4, a5, a6, a7, a8, a9, a10, a11, a12, a13, a14, a15, a16, a17, a18, a19, a20, a21, a22, a23, a24, a25, a26, a27, a28, a29, a30, a31], _ => exact ⟨a0, a1, a2, a3, a4, a5, a6, a7, a8, a9, a10, a11, a12, a13, a14, a15, a16, a17, a18, a19, a20, a21, a22, a23, a24, a25, a26, a27, a28, a29, a30, a31, rfl⟩
theorem frag_built (K S : List UInt8) (hK : K.length = 32) (hS : S.length = 32) (part : Int) (last : Bool) (size : Int) (turn : Nat) :
    Tryd.prog.built 26 [(0, .agg (bytesV K)), (1, .int .i64 part), (2, .bool last), (3, .int .i64 size), (4, .agg (bytesV S)), (5, .int .u64 turn)] = some (fragA { K := K, part := part, last := last, size := size, S := S, turn := turn }) := by
  obtain ⟨a0, a1, a2, a3, a4, a5, a6, a7, a8, a9, a10, a11, a12, a13, a14, a15, a16, a17, a18, a19, a20, a21, a22, a23, a24, a25, a26, a27, a28, a29, a30, a31, rfl⟩ := list32 hK
  obtain ⟨b0, b1, b2, b3, b4, b5, b6, b7, b8, b9, b10, b11, b12, b13, b14, b15, b16, b17, b18, b19, b20, b21, b22, b23, b24, b25, b26, b27, b28, b29, b30, b31, rfl⟩ := list32 hS
  kernel_rfl
theorem quiet_build {P : Program} {C : World → Prop} {o : Oper} {a : Act} (t : TypeId) (parts : Array (Nat × Operand)) (ho : o.op = .build t parts) (cells : Array Value) (hf : P.built t (parts.map fun (i, x) => (i, a.eval x)).toList = some cells) (W : World) : o.quietAt P a C W (.agg cells) := by
  have h := run_build (P := P) W t _ cells hf
  unfold Oper.quietAt execOp
  simp only [ho, Sem.run_bind, Result.andThen_ok, h, Sem.run_pure]
  exact ⟨rfl, rfl⟩
end Go.Proofs.YtimpnnhadjfijaaDoor
