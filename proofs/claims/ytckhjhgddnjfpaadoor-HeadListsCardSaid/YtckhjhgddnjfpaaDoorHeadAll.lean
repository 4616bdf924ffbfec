/-
  All values of a name, in the program.
-/
import Derived.Test.YtckhjhgddnjfpaaDoorHeadGet
namespace Go.Proofs.YtckhjhgddnjfpaaDoor
open Go.RowKit HeadMath

def allF (n : ByteArray) (l : List (ByteArray × ByteArray)) : List ByteArray := (l.filter (isNamed n)).map (·.2)
theorem allF_yes {n : ByteArray} {l : List (ByteArray × ByteArray)} {k : Nat} (h : k < l.length) (ht : isNamed n l[k] = true) : allF n (l.take (k + 1)) = allF n (l.take k) ++ [l[k].2] := by
  unfold allF
  rw [List.take_succ_eq_append_getElem h, List.filter_append, List.map_append]
  simp [ht]
theorem allF_no {n : ByteArray} {l : List (ByteArray × ByteArray)} {k : Nat} (h : k < l.length) (ht : isNamed n l[k] = false) : allF n (l.take (k + 1)) = allF n (l.take k) := by
  unfold allF
  rw [List.take_succ_eq_append_getElem h, List.filter_append, List.map_append]
  simp [ht]
theorem allF_len (n : ByteArray) (l : List (ByteArray × ByteArray)) : (allF n l).length ≤ l.length := by
  unfold allF
  rw [List.length_map]
  exact List.length_filter_le _ _
def strCells (l : List ByteArray) : List Value := l.map fun s => .string s
theorem strCells_snoc (l : List ByteArray) (s : ByteArray) : strCells (l ++ [s]) = strCells l ++ [.string s] := by simp [strCells]
theorem strInfo : (Tryd.prog.info? 9).map (fun i => (i.zero, i.size, i.bytes)) = some (some (.string ⟨#[]⟩), 1, 16) := by kernel_rfl
theorem ownsRow_drewN {w : World} {base : Nat} {e : TypeId} {size : Nat} {v : Value} {n : Nat} {xs : List Value} (h : w.ownsRow base e size v n xs) (m : Nat) : (w.drewN m).ownsRow base e size v n xs := h

def RowPost (w : World) (r : List ByteArray) (e : Ending) (w' : World) : Prop :=
  ∃ v, e = .returned v ∧ w'.ownsRow w.heap.size 9 1 v r.length (strCells r) ∧ Below w.heap.size w w'

set_option maxHeartbeats 4000000 in
theorem all_any (l : List (ByteArray × ByteArray)) (n : ByteArray) (a : Option Addr) (cap : Nat) (w : World) (hin : FieldsIn w.heap.size w a l) (hsm : SmallF l) (hle : l.length ≤ 1000000000000) (hn : n.size ≤ 140737488351232) :
    Calls Tryd.prog 27 #[.slice a l.length cap, .string n] w (RowPost w (allF n l)) := by
  obtain ⟨i0, hi, hz0, hz1, hz2⟩ := info_parts strInfo
  have HIN := Lib.hid hin
  clear hin
  go_enter Tryd.func27, Tryd.ntmps27
  go_wp2
  go_loopw [5, 10] (fun v i wr => ∃ (k : Nat) (r : List ByteArray), k ≤ l.length ∧ i = .int .i64 k ∧ Hid (allF n (l.take k) = r) ∧ r.length ≤ k ∧ wr.ownsRow w.heap.size 9 1 v r.length (strCells r) ∧ Below w.heap.size w wr) (fun _ i _ => l.length - (intOf i).toNat)
  case atStart => exact ⟨0, [], Nat.zero_le _, rfl, Lib.hid rfl, Nat.le_refl _, World.ownsRow_nil _ _ _ _, Below.refl _ _⟩
  case round =>
    obtain ⟨k, r, hk, rfl, HA, hrl, hown, hb⟩ := hrel
    by_cases hlt : k < l.length
    · obtain ⟨b, off, rfl, hbl, hc1, hc2⟩ := HIN.out k hlt
      have hs1 := hsm k hlt
      have x0 := (hb.cell (p := ⟨b, off + k * 2, none⟩) hbl).trans hc1
      have x1 := (hb.cell (p := ⟨b, off + k * 2 + 1, none⟩) hbl).trans hc2
      clear hc1 hc2
      obtain ⟨nm, vl, hf⟩ : ∃ nm vl, l[k] = (nm, vl) := ⟨_, _, rfl⟩
      have HF := Lib.hid hf
      simp only [hf] at x0 x1 hs1
      clear hf
      have hb' := hb.alloc (o := .cells #[.string nm, .string vl] 48) hb.size
      have hown' := hown.alloc (.cells #[.string nm, .string vl] 48)
      cases ht : sameF nm.data.toList n.data.toList with
      | true =>
        have HG := Lib.hid (show allF n (l.take (k + 1)) = r ++ [vl] from by rw [allF_yes hlt (by rw [HF.out]; exact ht), HA.out, HF.out])
        have HT := Lib.hid ht
        clear ht
        go_wp2_with fail
        refine (same_any _ _ _ hs1.1 hn).mono ?_
        rintro e w1 ⟨m, rfl, hw1⟩
        rw [HT.out]
        have hown1 := ownsRow_drewN hown' m
        have hb1 := below_drewN hb' m
        have hB := MBlk.new wr 48 #[.string nm, .string vl] (0, 0)
        have y1 : w1.cell? ⟨wr.heap.size, 1, none⟩ = some (.string vl) := by rw [hw1]; exact hB.cell 1
        rw [← hw1] at hown1 hb1
        have hsz := hb1.size
        clear hw1 hB hown hown' x0 x1
        go_wp2_with (at_builtin; refine wpList_append_own _ rfl _ _ 22 rfl w.heap.size 9 i0 (.string ⟨#[]⟩) 1 16 Tryd.underlying22 hi hz0 hz1 hz2 rfl (by decide) _ _ _ rfl (hown1.alloc _) ⟨w1.heap.size, 0, none⟩ 1 1 [.string vl] rfl rfl ?c1U ?c2U ?c3U ?c4U ?c5U ?_)
        case c1U =>
          intro j u hj
          match j, hj with
          | 0, hj => simp at hj; subst hj; simp [Addr.add]
        case c2U => intro u hu; simp at hu; subst hu; rfl
        case c3U => unfold maxLen; omega
        case c4U => omega
        case c5U => simp; omega
        intro v' w4 hown4 hgrow _
        have hb4 : Below w.heap.size w w4 := (hb1.alloc hsz _).grown hgrow (by simp; omega) (fun k hk => (hown1.lt k hk).1)
        clear hgrow hown1
        go_wp2
        go_roundw
        case rel =>
          refine ⟨k + 1, r ++ [vl], by omega, by go_num, HG, by simp; omega, ?_, hb4⟩
          rw [strCells_snoc]; simpa using hown4
        case measure => simp [intOf]; omega
      | false =>
        have HG := Lib.hid (show allF n (l.take (k + 1)) = r from by rw [allF_no hlt (by rw [HF.out]; exact ht), HA.out])
        have HT := Lib.hid ht
        clear ht
        go_wp2_with fail
        refine (same_any _ _ _ hs1.1 hn).mono ?_
        rintro e w1 ⟨m, rfl, rfl⟩
        rw [HT.out]
        go_wp2
        go_roundw
        case rel => exact ⟨k + 1, r, by omega, by go_num, HG, by omega, ownsRow_drewN hown' m, below_drewN hb' m⟩
        case measure => simp [intOf]; omega
    · have HG := Lib.hid (show allF n l = r from by have := HA.out; rwa [List.take_of_length_le (by omega)] at this)
      go_wp2
      go_ret
      rw [HG.out]
      exact ⟨_, rfl, hown, hb⟩
end Go.Proofs.YtckhjhgddnjfpaaDoor
