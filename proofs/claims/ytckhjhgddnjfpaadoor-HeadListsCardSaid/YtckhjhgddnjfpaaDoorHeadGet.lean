/-
  The values of a name, in the program.
-/
import Derived.Test.YtckhjhgddnjfpaaDoorHeadParse
namespace Go.Proofs.YtckhjhgddnjfpaaDoor
open Go.RowKit HeadMath

/-- A row of fields in memory. -/
def FieldsIn (B : Nat) (w : World) (a : Option Addr) (l : List (ByteArray × ByteArray)) : Prop :=
  ∀ j (h : j < l.length), ∃ b off, a = some ⟨b, off, none⟩ ∧ b < B ∧ w.cell? ⟨b, off + j * 2, none⟩ = some (.string l[j].1) ∧ w.cell? ⟨b, off + j * 2 + 1, none⟩ = some (.string l[j].2)
def SmallF (l : List (ByteArray × ByteArray)) : Prop := ∀ j (h : j < l.length), l[j].1.size ≤ 140737488351232 ∧ l[j].2.size ≤ 140737488351232

def isNamed (n : ByteArray) (f : ByteArray × ByteArray) : Bool := sameF f.1.data.toList n.data.toList
def getF (n : ByteArray) (l : List (ByteArray × ByteArray)) : Option ByteArray := (l.find? (isNamed n)).map (·.2)
theorem getF_none {n : ByteArray} {l : List (ByteArray × ByteArray)} (h : ∀ j (h : j < l.length), isNamed n l[j] = false) : getF n l = none := by
  unfold getF
  rw [List.find?_eq_none.2]
  · rfl
  · intro x hx
    obtain ⟨j, hj, rfl⟩ := List.getElem_of_mem hx
    rw [h j hj]; simp
theorem getF_some {n : ByteArray} {l : List (ByteArray × ByteArray)} {k : Nat} (hk : k < l.length) (h : ∀ j (hj : j < l.length), j < k → isNamed n l[j] = false) (ht : isNamed n l[k] = true) : getF n l = some l[k].2 := by
  unfold getF
  have : l.find? (isNamed n) = some l[k] := by
    rw [List.find?_eq_some_iff_getElem]
    exact ⟨ht, k, hk, rfl, fun j hj => by simp [h j (by omega) hj]⟩
  rw [this]; rfl

def GetPost (n : ByteArray) (l : List (ByteArray × ByteArray)) (w : World) (e : Ending) (w' : World) : Prop :=
  Below w.heap.size w w' ∧ ((getF n l = none ∧ e = .returned (.tuple #[.string { data := #[] }, .bool false])) ∨ ∃ v, getF n l = some v ∧ e = .returned (.tuple #[.string v, .bool true]))

set_option maxHeartbeats 4000000 in
theorem get_any (l : List (ByteArray × ByteArray)) (n : ByteArray) (a : Option Addr) (cap : Nat) (w : World) (hin : FieldsIn w.heap.size w a l) (hsm : SmallF l) (hle : l.length ≤ 140737488351232) (hn : n.size ≤ 140737488351232) :
    Calls Tryd.prog 24 #[.slice a l.length cap, .string n] w (GetPost n l w) := by
  have HIN := Lib.hid hin
  clear hin
  go_enter Tryd.func24, Tryd.ntmps24
  go_wp2
  go_loopw [10] (fun i wr => ∃ k : Nat, k ≤ l.length ∧ i = .int .i64 k ∧ Hid (∀ j (h : j < l.length), j < k → isNamed n l[j] = false) ∧ Below w.heap.size w wr) (fun i _ => l.length - (intOf i).toNat)
  case atStart => exact ⟨0, Nat.zero_le _, rfl, Lib.hid (fun j _ h => absurd h (Nat.not_lt_zero _)), Below.refl _ _⟩
  case round =>
    obtain ⟨k, hk, rfl, HA, hb⟩ := hrel
    by_cases hlt : k < l.length
    · obtain ⟨b, off, rfl, hbl, hc1, hc2⟩ := HIN.out k hlt
      have hs1 := hsm k hlt
      have x0 := (hb.cell (p := ⟨b, off + k * 2, none⟩) hbl).trans hc1
      have x1 := (hb.cell (p := ⟨b, off + k * 2 + 1, none⟩) hbl).trans hc2
      clear hc1 hc2
      obtain ⟨nm, vl, hf⟩ : ∃ nm vl, l[k] = (nm, vl) := ⟨_, _, rfl⟩
      have HF := Lib.hid hf
      simp only [hf] at x0 x1 hs1
      clear hf
      have hb' := hb.alloc (o := .cells #[.string nm, .string vl] 48) hb.size
      cases ht : sameF nm.data.toList n.data.toList with
      | true =>
        have HG := Lib.hid (getF_some hlt (fun j hj h => HA.out j hj h) (by rw [HF.out]; exact ht))
        have HT := Lib.hid ht
        clear ht
        go_wp2_with fail
        refine (same_any _ _ _ hs1.1 hn).mono ?_
        rintro e w1 ⟨m, rfl, rfl⟩
        rw [HT.out]
        go_wp2
        go_ret2
        exact ⟨below_drewN hb' m, .inr ⟨vl, by rw [HG.out, HF.out], rfl⟩⟩
      | false =>
        have HN := Lib.hid (show ∀ j (h : j < l.length), j < k + 1 → isNamed n l[j] = false from fun j hj h => by
          by_cases hjk : j = k
          · subst hjk; rw [HF.out]; exact ht
          · exact HA.out j hj (by omega))
        have HT := Lib.hid ht
        clear ht
        go_wp2_with fail
        refine (same_any _ _ _ hs1.1 hn).mono ?_
        rintro e w1 ⟨m, rfl, rfl⟩
        rw [HT.out]
        go_wp2
        go_roundw
        case rel => exact ⟨k + 1, by omega, by go_num, HN, below_drewN hb' m⟩
        case measure => simp [intOf]; omega
    · have HG := Lib.hid (getF_none (n := n) (l := l) (fun j hj => HA.out j hj (by omega)))
      go_wp2
      go_ret2
      exact ⟨hb, .inl ⟨HG.out, rfl⟩⟩
end Go.Proofs.YtckhjhgddnjfpaaDoor
