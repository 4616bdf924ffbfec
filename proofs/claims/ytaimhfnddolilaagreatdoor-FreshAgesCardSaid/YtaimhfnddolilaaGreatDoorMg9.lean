/-
  The statements' first test: constants.
  Fields left out and put, in the program.
  ambryhelp.Light: few fields, none long.
-/
import Derived.Test.YtaimhfnddolilaaGreatDoorMg4
import Derived.Test.YtaimhfnddolilaaGreatDoorMg8
import Derived.Test.YtaimhfnddolilaaGreatDoorMg10
namespace Go.Proofs.YtaimhfnddolilaaGreatDoor.HeadS
open Go.RowKit HeadMath

def k3 : ByteArray := ⟨#[65, 32, 98]⟩
theorem fieldCells_at : ∀ (l : List (ByteArray × ByteArray)) (k : Nat) (h : k < l.length), (fieldCells l)[k * 2]? = some (.string l[k].1) ∧ (fieldCells l)[k * 2 + 1]? = some (.string l[k].2)
  | [], k, h => absurd h (by simp)
  | x :: l, 0, _ => by simp [fieldCells]
  | x :: l, k + 1, h => by
    have ih := fieldCells_at l k (by simpa using h)
    have e : ∀ j, (fieldCells (x :: l))[j + 2]? = (fieldCells l)[j]? := fun j => by simp [fieldCells]
    rw [show (k + 1) * 2 = k * 2 + 2 from by omega, show k * 2 + 2 + 1 = (k * 2 + 1) + 2 from by omega, e, e]
    exact ih
theorem fieldsIn_own {w : World} {base g c : Nat} {e : TypeId} {fs : List (ByteArray × ByteArray)} (h : w.ownsRow base e 2 (.slice (some ⟨g, 0, none⟩) fs.length c) fs.length (fieldCells fs)) : FieldsIn w.heap.size w (some ⟨g, 0, none⟩) fs := by
  intro j hj
  have hc := fieldCells_at fs j hj
  refine ⟨g, 0, rfl, (h.lt g rfl).2, ?_, ?_⟩
  · rw [Nat.zero_add, World.ownsRow.cellAt h _ (by omega)]; exact hc.1
  · rw [Nat.zero_add, World.ownsRow.cellAt h _ (by omega)]; exact hc.2
theorem FieldsIn.below {w w' : World} {B B' : Nat} {a : Option Addr} {l : List (ByteArray × ByteArray)} (h : FieldsIn B w a l) (hb : Below B w w') (hB : B ≤ B') : FieldsIn B' w' a l := by
  intro j hj
  obtain ⟨b, off, h1, h2, h3, h4⟩ := h j hj
  exact ⟨b, off, h1, Nat.lt_of_lt_of_le h2 hB, (hb.cell (p := ⟨b, off + j * 2, none⟩) h2).trans h3, (hb.cell (p := ⟨b, off + j * 2 + 1, none⟩) h2).trans h4⟩
theorem strsIn_own {w : World} {base g c : Nat} {e : TypeId} {r : List ByteArray} (h : w.ownsRow base e 1 (.slice (some ⟨g, 0, none⟩) r.length c) r.length (strCells r)) : StrsIn w.heap.size w (some ⟨g, 0, none⟩) r := by
  intro j hj
  refine ⟨g, 0, rfl, (h.lt g rfl).2, ?_⟩
  rw [Nat.zero_add, World.ownsRow.cellAt h _ (by omega), strCells_at hj]
theorem StrsIn.below {w w' : World} {B B' : Nat} {a : Option Addr} {l : List ByteArray} (h : StrsIn B w a l) (hb : Below B w w') (hB : B ≤ B') : StrsIn B' w' a l := by
  intro j hj
  obtain ⟨b, off, h1, h2, h3⟩ := h j hj
  exact ⟨b, off, h1, Nat.lt_of_lt_of_le h2 hB, (hb.cell (p := ⟨b, off + j, none⟩) h2).trans h3⟩
theorem strsIn_lit (w : World) (t : TypeId) (ls : List ByteArray) : StrsIn (w.alloc (.cells (strCells ls).toArray t)).heap.size (w.alloc (.cells (strCells ls).toArray t)) (some ⟨w.heap.size, 0, none⟩) ls := by
  intro j hj
  have hB := MBlk.new w t (strCells ls).toArray (0, 0)
  refine ⟨w.heap.size, 0, rfl, hB.lt, ?_⟩
  rw [Nat.zero_add, hB.cell j]
  have := strCells_at hj
  simpa using this

end Go.Proofs.YtaimhfnddolilaaGreatDoor.HeadS
namespace Go.Proofs.YtaimhfnddolilaaGreatDoor.HeadS
open Go.RowKit HeadMath

abbrev Fs := List (ByteArray × ByteArray)
def FieldPost (w : World) (r : Fs) (e : Ending) (w' : World) : Prop :=
  ∃ v, e = .returned v ∧ w'.ownsRow w.heap.size 43 2 v r.length (fieldCells r) ∧ Below w.heap.size w w'
theorem ownsRow_base {w : World} {B B' : Nat} {e : TypeId} {size : Nat} {v : Value} {n : Nat} {xs : List Value} (h : w.ownsRow B e size v n xs) (hB : B' ≤ B) : w.ownsRow B' e size v n xs := by
  refine ⟨h.1, ?_⟩
  rcases h.2 with h0 | ⟨g, cap, cur, hv, hg, rest⟩
  · exact .inl h0
  · exact .inr ⟨g, cap, cur, hv, Nat.le_trans hB hg, rest⟩
theorem small_one {x : ByteArray} (hx : x.size ≤ 140737488351232) : Small [x] := by
  intro j h
  have e : j = 0 := by simpa using h
  subst e
  exact hx
theorem strsIn_one (w : World) (t : TypeId) (x : ByteArray) : StrsIn (w.alloc (.cells #[.string x] t)).heap.size (w.alloc (.cells #[.string x] t)) (some ⟨w.heap.size, 0, none⟩) [x] := strsIn_lit w t [x]
end Go.Proofs.YtaimhfnddolilaaGreatDoor.HeadS
namespace Go.Proofs.YtaimhfnddolilaaGreatDoor.HeadS
open Go.ChangeShapes Go.WideShapes Go.ChangeAt Go.RowKit HeadMath

def Lit1 (fs : List (ByteArray × ByteArray)) (most : Nat) (w : World) (e : Ending) (w' : World) : Prop :=
  ∃ b : Bool, e = .returned (.bool b) ∧ w' = w ∧ (b = true → fs.length ≤ most ∧ ∀ j (h : j < fs.length), (fs[j]).1.size ≤ 300 ∧ (fs[j]).2.size ≤ 300)
set_option maxRecDepth 100000 in
set_option maxHeartbeats 1000000 in
theorem light_any (fs : List (ByteArray × ByteArray)) (a : Option Addr) (c n most : Nat) (w : World) (hat : FieldsIn w.heap.size w a fs) (hn : n = fs.length) (hn63 : n < 9223372036854775808) (hm : most < 9223372036854775808) (hsz : ∀ j (h : j < fs.length), (fs[j]).1.size ≤ 9223372036854775807 ∧ (fs[j]).2.size ≤ 9223372036854775807) :
    Calls Tryz.prog 21 #[.slice a n c, .int .i64 most] w (Lit1 fs most w) := by
  have HA := Lib.hid hat
  have HN := Lib.hid hn
  have HSZ := Lib.hid hsz
  clear hat hn hsz
  by_cases hbig : most < n
  · have i1 : (most : Int) < (n : Int) := by omega
    go_enter Tryz.func21, Tryz.ntmps21
    go_wp2
    go_ret
    exact ⟨false, rfl, rfl, fun h => by cases h⟩
  have i1 : ¬ (most : Int) < (n : Int) := by omega
  go_enter Tryz.func21, Tryz.ntmps21
  go_wp2
  go_loopw [5] (fun i wr => ∃ k : Nat, k ≤ n ∧ i = .int .i64 k ∧ wr = w ∧ Hid (∀ j (h : j < fs.length), j < k → (fs[j]).1.size ≤ 300 ∧ (fs[j]).2.size ≤ 300)) (fun i _ => n - (intOf i).toNat)
  case atStart => exact ⟨0, by omega, rfl, rfl, Lib.hid (fun j _ h => by omega)⟩
  case round =>
    obtain ⟨k, hk, rfl, rfl, HSM⟩ := hrel
    by_cases hlt : k < n
    · have hk2 : k < fs.length := by have := HN.out; omega
      obtain ⟨b, off, rfl, _, hc0, hc1⟩ := HA.out k hk2
      have hs := HSZ.out k hk2
      obtain ⟨s1, hs1⟩ : ∃ s, (fs[k]).1 = s := ⟨_, rfl⟩
      obtain ⟨s2, hs2⟩ : ∃ s, (fs[k]).2 = s := ⟨_, rfl⟩
      rw [hs1] at hc0 hs
      rw [hs2] at hc1 hs
      obtain ⟨z1, hz1⟩ : ∃ z, s1.size = z := ⟨_, rfl⟩
      obtain ⟨z2, hz2⟩ : ∃ z, s2.size = z := ⟨_, rfl⟩
      rw [hz1, hz2] at hs
      have HP := Lib.hid (show (fs[k]).1.size = z1 ∧ (fs[k]).2.size = z2 from ⟨by rw [hs1, hz1], by rw [hs2, hz2]⟩)
      have j1 : (k : Int) < (n : Int) := by omega
      clear hs1 hs2
      by_cases h1 : 300 < z1
      · have j3 : (300 : Int) < (z1 : Int) := by omega
        go_wp2
        go_ret
        exact ⟨false, rfl, rfl, fun h => by cases h⟩
      by_cases h2 : 300 < z2
      · have j3 : ¬ (300 : Int) < (z1 : Int) := by omega
        have j4 : (300 : Int) < (z2 : Int) := by omega
        go_wp2
        go_ret
        exact ⟨false, rfl, rfl, fun h => by cases h⟩
      have j3 : ¬ (300 : Int) < (z1 : Int) := by omega
      have j4 : ¬ (300 : Int) < (z2 : Int) := by omega
      go_wp2
      go_roundw
      case rel =>
        refine ⟨k + 1, by omega, by go_num, trivial, Lib.hid (fun j h hj => ?_)⟩
        by_cases e : j = k
        · subst e; rw [HP.out.1, HP.out.2]; omega
        · exact HSM.out j h (by omega)
      case measure => simp [intOf]; omega
    · obtain rfl : k = n := by omega
      go_wp2
      go_ret
      exact ⟨true, rfl, rfl, fun _ => ⟨by have := HN.out; omega, fun j h => HSM.out j h (by have := HN.out; omega)⟩⟩
end Go.Proofs.YtaimhfnddolilaaGreatDoor.HeadS
