/-
  A control's text: its parts.
-/
import Derived.Test.YtaimhfnddolilaaGreatDoorShelf
import Derived.Deep.RegionLaw
import Derived.Deep.AppendLies
import Derived.Lib.LaidTab
import Derived.Lib.ItoaLen
import Derived.Lib.AppendIntMem
import Derived.Test.YtaimhfnddolilaaGreatDoorMg13
import Derived.Test.YtaimhfnddolilaaGreatDoorMg18
namespace Go.Proofs.YtaimhfnddolilaaGreatDoor.CtrlS
open Go.RowKit HeadMath HeadS

def numB (n : Int) (name : ByteArray) : ByteArray := name ++ ⟨#[61]⟩ ++ ⟨(Lib.itoa (min n 2147483647)).toArray⟩
theorem own_form {B : Nat} {w : World} {v : Value} {l : List ByteArray} {n : Nat} (h : OwnStrs B w v l) (hn : l.length = n) : ∃ a c, v = .slice a n c ∧ (a = none → c = 0) := by
  subst hn
  rcases h.2 with ⟨hv, h2⟩ | ⟨g, cap, cur, hv, _⟩
  · exact ⟨none, 0, by rw [h2]; exact hv, fun _ => rfl⟩
  · exact ⟨_, _, hv, fun e => by cases e⟩
/-- The table that FormatInt reads lies in w. -/
def TabW (w : World) : Prop := Lib.TabIs Tryz.prog w "internal/strconv.uint64pow10" .u64 Lib.pow10Tab
theorem TabW.spares {F : Nat → Prop} {w w' : World} (h : TabW w) (hs : Spares F w w') (hF : ¬ F 3) : TabW w' := by
  unfold TabW Lib.TabIs World.var? at h ⊢
  rw [show Tryz.prog.globalNamed "internal/strconv.uint64pow10" = some 3 by kernel_rfl] at h ⊢
  simp only [Option.bind_some] at h ⊢
  have hlt : 3 < w.heap.size := by
    rcases Nat.lt_or_ge 3 w.heap.size with h' | h'
    · exact h'
    · rw [Array.getElem?_eq_none h'] at h; cases h
  rw [hs.block 3 hlt hF]
  exact h
theorem TabW.below {w w' : World} (h : TabW w) (hb : Below w.heap.size w w') : TabW w' := h.spares (Below.spares (F := nowhere) hb (fun _ hk => .inr hk)) (fun h => h)
end Go.Proofs.YtaimhfnddolilaaGreatDoor.CtrlS
