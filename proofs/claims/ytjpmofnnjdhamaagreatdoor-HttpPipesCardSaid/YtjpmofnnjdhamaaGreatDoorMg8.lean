/-
  The parts of a name's values, in the program.
-/
import Derived.Lib.SmallJoins
import Derived.Test.YtjpmofnnjdhamaaGreatDoorMg5
namespace Go.Proofs.YtjpmofnnjdhamaaGreatDoor.HeadS
open Go.RowKit HeadMath

def endOf (v : ByteArray) : Nat := endF false false v.data.toList
theorem endOf_le (v : ByteArray) : endOf v ≤ v.size := by have := endF_le false false v.data.toList; rwa [size_list] at this
def pieceOf (v : ByteArray) : ByteArray := ⟨(trimF (v.extract 0 (endOf v)).data.toList).toArray⟩
def restOf (v : ByteArray) : ByteArray := v.extract (min (endOf v + 1) v.size) v.size
theorem restOf_size (v : ByteArray) : (restOf v).size = v.size - (endOf v + 1) := by
  unfold restOf
  rw [extract_size _ _ _ (Nat.min_le_right _ _) (Nat.le_refl _)]
  omega
def partsF (v : ByteArray) : List ByteArray :=
  if _h : v.size = 0 then [] else (if (pieceOf v).size = 0 then [] else [pieceOf v]) ++ partsF (restOf v)
termination_by v.size
decreasing_by rw [restOf_size]; omega
theorem partsF_nil {v : ByteArray} (h : v.size = 0) : partsF v = [] := by rw [partsF, dif_pos h]
theorem partsF_skip {v : ByteArray} (h : v.size ≠ 0) (hp : (pieceOf v).size = 0) : partsF v = partsF (restOf v) := by
  rw [partsF, dif_neg h, if_pos hp]; rfl
theorem partsF_take {v : ByteArray} (h : v.size ≠ 0) (hp : (pieceOf v).size ≠ 0) : partsF v = pieceOf v :: partsF (restOf v) := by
  rw [partsF, dif_neg h, if_neg hp]; rfl
def listF (n : ByteArray) (l : List (ByteArray × ByteArray)) : List ByteArray := (allF n l).flatMap partsF
theorem allF_size {n : ByteArray} {l : List (ByteArray × ByteArray)} {c : Nat} (h : ∀ j (h : j < l.length), l[j].2.size ≤ c) : ∀ v ∈ allF n l, v.size ≤ c := by
  intro v hv
  unfold allF at hv
  obtain ⟨x, hx, rfl⟩ := List.mem_map.1 hv
  obtain ⟨j, hj, rfl⟩ := List.getElem_of_mem (List.mem_filter.1 hx).1
  exact h j hj
theorem isEmpty_yes {s : ByteArray} (h : s.size = 0) : s.toList.isEmpty = true := by rw [Lib.toList_data, list_nil h]; rfl
theorem isEmpty_no {s : ByteArray} (h : s.size ≠ 0) : s.toList.isEmpty = false := by
  rw [Lib.toList_data]
  cases hl : s.data.toList with
  | nil => exact absurd (by have := size_list s; rw [hl] at this; exact this.symm) h
  | cons c l => rfl
theorem minNat (a b : Nat) : (min ((a : Int) + 1) (b : Int)).toNat = min (a + 1) b := by omega
theorem partEnd_named {s : ByteArray} {en : Nat} (w : World) (hs : s.size ≤ 140737488351232) (h : endOf s = en) :
    Calls Tryz.prog 132 #[.string s] w fun e w' => e = .returned (.int .i64 en) ∧ w = w' := by
  subst h
  exact partEnd_any s w hs
theorem strCells_at {r : List ByteArray} {k : Nat} (h : k < r.length) : (strCells r)[k]? = some (.string r[k]) := by simp [strCells, h]

set_option maxHeartbeats 4000000 in
theorem list_any (l : List (ByteArray × ByteArray)) (n : ByteArray) (a : Option Addr) (cap : Nat) (w : World) (hin : FieldsIn w.heap.size w a l) (hsm : SmallF l) (hle : l.length ≤ 1000000) (hvs : ∀ j (h : j < l.length), l[j].2.size ≤ 1000000) (hn : n.size ≤ 140737488351232) :
    Calls Tryz.prog 110 #[.slice a l.length cap, .string n] w (RowPost w (listF n l)) := by
  obtain ⟨i0, hi, hz0, hz1, hz2⟩ := info_parts strInfo
  go_enter Tryz.func110, Tryz.ntmps110
  go_wp2_with fail
  refine (all_any l n a cap _ hin hsm (by omega) hn).mono ?_
  rintro e w1 ⟨v, rfl, hownA, hbA⟩
  have hal := allF_len n l
  have has := allF_size (n := n) hvs
  have HL := Lib.hid (show listF n l = (allF n l).flatMap partsF from rfl)
  generalize allF n l = A at *
  clear hin
  obtain ⟨a1, cap1, rfl⟩ : ∃ a1 cap1, v = .slice a1 A.length cap1 := by
    rcases hownA.2 with ⟨h, h0⟩ | ⟨g, c, cur, h, _⟩
    · exact ⟨none, 0, by rw [h, h0]⟩
    · exact ⟨_, _, h⟩
  have hcA : ∀ k (h : k < A.length), ∃ g, a1 = some ⟨g, 0, none⟩ ∧ g < w1.heap.size ∧ w1.cell? ⟨g, k, none⟩ = some (.string A[k]) := by
    intro k h
    rcases hownA.2 with ⟨_, h0⟩ | ⟨g, c, cur, h1, _⟩
    · omega
    · cases h1
      refine ⟨g, rfl, (hownA.lt g rfl).2, ?_⟩
      rw [World.ownsRow.cellAt hownA k (by omega), strCells_at h]
  have HC := Lib.hid hcA
  clear hcA hownA
  have hsz1 := hbA.size
  go_wp2
  go_loopw [5, 14] (fun V i wr => ∃ (k : Nat) (r : List ByteArray), k ≤ A.length ∧ i = .int .i64 k ∧ Hid ((A.take k).flatMap partsF = r) ∧ r.length ≤ k * 1000000 ∧ wr.ownsRow w1.heap.size 9 1 V r.length (strCells r) ∧ Below w1.heap.size w1 wr) (fun _ i _ => A.length - (intOf i).toNat)
  case atStart => exact ⟨0, [], Nat.zero_le _, rfl, Lib.hid rfl, Nat.zero_le _, World.ownsRow_nil _ _ _ _, Below.refl _ _⟩
  case round =>
    obtain ⟨k, r, hk, rfl, HR, hrl, hown, hb⟩ := hrel
    by_cases hlt : k < A.length
    · obtain ⟨g, rfl, hg, hc⟩ := HC.out k hlt
      have x0 := (hb.cell (p := ⟨g, k, none⟩) hg).trans hc
      clear hc
      have hvz := has _ (List.getElem_mem hlt)
      obtain ⟨v0, hv0⟩ : ∃ v0, A[k] = v0 := ⟨_, rfl⟩
      have HV := Lib.hid hv0
      rw [hv0] at x0 hvz
      clear hv0
      go_wp2
      go_loopw [5, 7] (fun V T wr => ∃ (v : ByteArray) (acc : List ByteArray), T = .string v ∧ v.size ≤ 1000000 ∧ Hid (acc ++ partsF v = r ++ partsF v0) ∧ acc.length + v.size ≤ (k + 1) * 1000000 ∧ wr.ownsRow w1.heap.size 9 1 V acc.length (strCells acc) ∧ Below w1.heap.size w1 wr) (fun _ T _ => strSize T)
      case atStart => exact ⟨v0, r, rfl, hvz, Lib.hid rfl, by omega, hown, hb⟩
      case round =>
        clear hown hb x0 hvz hrl
        obtain ⟨v, acc, rfl, hvz, HA, hacc, hown, hb⟩ := hrel
        by_cases hz : v.size = 0
        · have qe := isEmpty_yes hz
          have HN := Lib.hid (show (A.take (k + 1)).flatMap partsF = acc from by
            have h := HA.out
            rw [partsF_nil hz, List.append_nil] at h
            rw [List.take_succ_eq_append_getElem hlt, List.flatMap_append, HR.out, HV.out, h]
            simp)
          go_wp2
          go_roundw
          case rel => exact ⟨k + 1, acc, by omega, by go_num, HN, by omega, hown, hb⟩
          case measure => simp [intOf]; omega
        · have qe := isEmpty_no hz
          obtain ⟨en, hen⟩ : ∃ en, endOf v = en := ⟨_, rfl⟩
          have hle := endOf_le v
          rw [hen] at hle
          have hrs := restOf_size v
          rw [hen] at hrs
          obtain ⟨pc, hpc⟩ : ∃ pc, (⟨(trimF (v.extract 0 en).data.toList).toArray⟩ : ByteArray) = pc := ⟨_, rfl⟩
          have HPP := Lib.hid (show pieceOf v = pc from by unfold pieceOf; rw [hen, hpc])
          have HRR := Lib.hid (show restOf v = v.extract (min (en + 1) v.size) v.size from by unfold restOf; rw [hen])
          have hx1 : (v.extract 0 en).size ≤ 140737488351232 := by rw [extract_size v 0 en (Nat.zero_le _) hle]; omega
          have HE := Lib.hid hen
          have HPC := Lib.hid hpc
          clear hen hpc
          by_cases hp : pc.size = 0
          · have qp := isEmpty_yes hp
            have HN := Lib.hid (show acc ++ partsF (restOf v) = r ++ partsF v0 from by rw [← partsF_skip hz (by rw [HPP.out]; exact hp)]; exact HA.out)
            go_wp2_with fail
            refine (partEnd_named _ (by omega) HE.out).mono ?_
            rintro e w2 ⟨rfl, rfl⟩
            go_wp2_with fail
            refine (trim_named _ hx1 HPC.out).mono ?_
            rintro e w2 ⟨rfl, hb2⟩
            have hown2 := ownsRow_below hown hb2
            replace hb2 := hb.trans (hb2.mono hb.size)
            go_wp2
            go_roundw
            case rel =>
              rw [minNat, ← HRR.out]
              exact ⟨_, acc, rfl, by omega, HN, by omega, hown2, hb2⟩
            case measure =>
              rw [minNat, ← HRR.out]
              show (restOf v).size < v.size
              omega
          · have qp := isEmpty_no hp
            have HN := Lib.hid (show (acc ++ [pc]) ++ partsF (restOf v) = r ++ partsF v0 from by
              have h := HA.out
              rw [partsF_take hz (by rw [HPP.out]; exact hp), HPP.out] at h
              rw [← h]; simp)
            go_wp2_with fail
            refine (partEnd_named _ (by omega) HE.out).mono ?_
            rintro e w2 ⟨rfl, rfl⟩
            go_wp2_with fail
            refine (trim_named _ hx1 HPC.out).mono ?_
            rintro e w2 ⟨rfl, hb2⟩
            have hown2 := ownsRow_below hown hb2
            replace hb2 := hb.trans (hb2.mono hb.size)
            have hsz2 := hb2.size
            clear hown
            go_wp2_with (at_builtin; refine wpList_append_own _ rfl _ _ 45 rfl w1.heap.size 9 i0 (.string ⟨#[]⟩) 1 16 Tryz.underlying45 hi hz0 hz1 hz2 rfl (by decide) _ _ _ rfl (hown2.alloc _) ⟨w2.heap.size, 0, none⟩ 1 1 [.string pc] rfl rfl ?c1U ?c2U ?c3U ?c4U ?c5U ?_)
            case c1U =>
              intro j u hj
              match j, hj with
              | 0, hj => simp at hj; subst hj; simp [Addr.add]
            case c2U => intro u hu; simp at hu; subst hu; rfl
            case c3U => unfold maxLen; omega
            case c4U => omega
            case c5U => simp; omega
            intro v' w4 hown4 hgrow _
            have hb4 : Below w1.heap.size w1 w4 := (hb2.alloc hsz2 _).grown hgrow (by simp; omega) (fun k hk => (hown2.lt k hk).1)
            clear hgrow hown2
            go_wp2
            go_roundw
            case rel =>
              rw [minNat, ← HRR.out]
              refine ⟨_, acc ++ [pc], rfl, by omega, HN, by simp; omega, ?_, hb4⟩
              rw [strCells_snoc]; simpa using hown4
            case measure =>
              rw [minNat, ← HRR.out]
              show (restOf v).size < v.size
              omega
    · have HG := Lib.hid (show listF n l = r from by rw [HL.out, ← HR.out, List.take_of_length_le (by omega)])
      go_wp2
      go_ret
      rw [HG.out]
      exact ⟨_, rfl, Joins.ownsRow_le hown hsz1, hbA.trans (hb.mono hsz1)⟩
end Go.Proofs.YtjpmofnnjdhamaaGreatDoor.HeadS
