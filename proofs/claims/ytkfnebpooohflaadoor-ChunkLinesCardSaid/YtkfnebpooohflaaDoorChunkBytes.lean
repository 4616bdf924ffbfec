/-
  chunk.Bytes: a body in chunks, written.
-/
import Derived.Test.YtkfnebpooohflaaDoorChunkHexF
namespace Go.Proofs.YtkfnebpooohflaaDoor
open Go.RowKit HeadMath NormMath NormS ChunkMath

def RowPost (B : Nat) (d : Bs) (w : World) (e : Ending) (w' : World) : Prop := ∃ v, e = .returned v ∧ Row8 B w' v d ∧ Spares (atLeast B) w w'
set_option maxHeartbeats 2000000 in
theorem uint_any (B n : Nat) (d : Bs) (v : Value) (w : World) (hn : n < 4294967296) (hd : Row8 B w v d) (hB : B ≤ w.heap.size) (hdl : d.length ≤ 1000000000) (hT : TabZ w) : Calls Tryd.prog 40 #[v, .int .u64 n, .int .i64 16] w (RowPost B (d ++ hexT n) w) := by
  have cF := format_any B n d v w hn hd hB hdl hT
  unfold FormPost at cF
  obtain ⟨a, c, rfl, _⟩ := hd.shape
  clear hd hT
  go_enter Tryd.func40, Tryd.ntmps40
  go_wp2_with fail
  refine cF.mono ?_
  rintro e w1 ⟨v9, rfl, hr, hs⟩
  have HR := Lib.hid hr
  have HS := Lib.hid hs
  clear hr hs cF
  go_wp2
  go_ret
  exact ⟨_, rfl, HR.out, HS.out⟩
set_option maxHeartbeats 2000000 in
theorem intI_any (B n : Nat) (d : Bs) (v : Value) (w : World) (hn : n < 4294967296) (hd : Row8 B w v d) (hB : B ≤ w.heap.size) (hdl : d.length ≤ 1000000000) (hT : TabZ w) : Calls Tryd.prog 31 #[v, .int .i64 n, .int .i64 16] w (RowPost B (d ++ hexT n) w) := by
  have cF := uint_any B n d v w hn hd hB hdl hT
  unfold RowPost at cF
  obtain ⟨a, c, rfl, _⟩ := hd.shape
  have k1 : IntKind.u64.wrap (n : Int) = (n : Int) := by rw [IntKind.wrap_u64]; omega
  have k2 : ¬ ((n : Int) < 0) := by omega
  clear hd hT
  go_enter Tryd.func31, Tryd.ntmps31
  go_wp2_with fail
  refine cF.mono ?_
  rintro e w1 ⟨v9, rfl, hr, hs⟩
  have HR := Lib.hid hr
  have HS := Lib.hid hs
  clear hr hs cF
  go_wp2
  go_ret
  exact ⟨_, rfl, HR.out, HS.out⟩
theorem int_any (B n : Nat) (d : Bs) (v : Value) (w : World) (hn : n < 4294967296) (hd : Row8 B w v d) (hB : B ≤ w.heap.size) (hdl : d.length ≤ 1000000000) (hT : TabZ w) : Calls Tryd.prog 18 #[v, .int .i64 n, .int .i64 16] w (RowPost B (d ++ hexT n) w) := by
  have cF := intI_any B n d v w hn hd hB hdl hT
  unfold RowPost at cF
  obtain ⟨a, c, rfl, _⟩ := hd.shape
  clear hd hT
  go_enter Tryd.func18, Tryd.ntmps18
  go_wp2_with fail
  refine cF.mono ?_
  rintro e w1 ⟨v9, rfl, hr, hs⟩
  have HR := Lib.hid hr
  have HS := Lib.hid hs
  clear hr hs cF
  go_wp2
  go_ret
  exact ⟨_, rfl, HR.out, HS.out⟩
def crlf : Bs := [13, 10]
def endB : Bs := [48, 13, 10, 13, 10]
/-- A body in chunks of so many bytes. -/
def bytesG (size : Nat) : Nat → Bs → Bs
  | 0, _ => endB
  | f + 1, body => if body = [] then endB else hexT (min size body.length) ++ (crlf ++ (body.take size ++ (crlf ++ bytesG size f (body.drop size))))
def bytesF (size : Nat) (body : Bs) : Bs := bytesG size body.length body
theorem bytesG_nil (size f : Nat) : bytesG size f [] = endB := by cases f <;> rfl
theorem bytesG_more {size f : Nat} {body : Bs} (h : body ≠ []) : bytesG size (f + 1) body = hexT (min size body.length) ++ (crlf ++ (body.take size ++ (crlf ++ bytesG size f (body.drop size)))) := by rw [bytesG, if_neg h]
end Go.Proofs.YtkfnebpooohflaaDoor
