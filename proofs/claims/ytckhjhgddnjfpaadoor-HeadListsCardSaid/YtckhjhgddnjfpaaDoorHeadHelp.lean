/-
  Rows of texts and of fields held against one another, by the statements' helpers.
-/
import Derived.Test.YtckhjhgddnjfpaaDoorHeadList
namespace Go.Proofs.YtckhjhgddnjfpaaDoor
open Go.RowKit HeadMath

def rowsEq (x y : List ByteArray) : Bool := (x.map fun s => s.data.toList) == (y.map fun s => s.data.toList)
theorem rowsEq_iff (x y : List ByteArray) : rowsEq x y = true ↔ x = y := by
  unfold rowsEq
  rw [beq_iff_eq]
  constructor
  · intro h
    have hl := congrArg List.length h
    simp only [List.length_map] at hl
    refine List.ext_getElem hl (fun j h1 h2 => data_inj ?_)
    have e : (x.map fun s => s.data.toList)[j]'(by rw [List.length_map]; exact h1) = (y.map fun s => s.data.toList)[j]'(by rw [List.length_map]; exact h2) := by simp only [h]
    rw [List.getElem_map, List.getElem_map] at e
    exact e
  · intro h; rw [h]
theorem rowsEq_differ {x y : List ByteArray} {k : Nat} (h1 : k < x.length) (h2 : k < y.length) (h : x[k] ≠ y[k]) : rowsEq x y = false := by
  rw [← Bool.not_eq_true, rowsEq_iff]
  rintro rfl
  exact h rfl
theorem rowsEq_same {x y : List ByteArray} (hl : x.length = y.length) (h : ∀ j (h1 : j < x.length) (h2 : j < y.length), x[j] = y[j]) : rowsEq x y = true := by
  rw [rowsEq_iff]
  exact List.ext_getElem hl h
theorem rowsEq_long {x y : List ByteArray} (hl : x.length ≠ y.length) : rowsEq x y = false := by
  rw [← Bool.not_eq_true, rowsEq_iff]
  rintro rfl
  exact hl rfl
theorem str_eq_yes {u v : ByteArray} (h : u = v) : (u.toList == v.toList) = true := by subst h; simp
theorem str_eq_no {u v : ByteArray} (h : u ≠ v) : (u.toList == v.toList) = false := by
  rw [beq_eq_false_iff_ne, Lib.toList_data, Lib.toList_data]
  exact fun e => h (data_inj e)

set_option maxHeartbeats 4000000 in
theorem strings_any (x y : List ByteArray) (a b : Option Addr) (ca cb : Nat) (w : World) (hx : StrsIn w.heap.size w a x) (hy : StrsIn w.heap.size w b y) (hlx : x.length ≤ 140737488351232) (_hly : y.length ≤ 140737488351232) :
    Calls Tryd.prog 26 #[.slice a x.length ca, .slice b y.length cb] w (DrewPost w (.bool (rowsEq x y))) := by
  have HX := Lib.hid hx
  have HY := Lib.hid hy
  clear hx hy
  by_cases hl : x.length = y.length
  · have q : (((x.length : Nat) : Int) != (y.length : Int)) = false := by simp [hl]
    have HL := Lib.hid hl
    have h1 : x.length ≤ y.length := by omega
    have h2 : y.length ≤ x.length := by omega
    clear hl
    go_enter Tryd.func26, Tryd.ntmps26
    go_wp2
    go_loopw [5] (fun i wr => ∃ k : Nat, k ≤ x.length ∧ i = .int .i64 k ∧ Hid (∀ j (h1 : j < x.length) (h2 : j < y.length), j < k → x[j] = y[j]) ∧ ∃ m, Hid (wr = w.drewN m)) (fun i _ => x.length - (intOf i).toNat)
    case atStart => exact ⟨0, Nat.zero_le _, rfl, Lib.hid (fun j _ _ h => absurd h (Nat.not_lt_zero _)), 0, Lib.hid rfl⟩
    case round =>
      obtain ⟨k, hk, rfl, HA, m, HM⟩ := hrel
      by_cases hlt : k < x.length
      · have hlt2 : k < y.length := by omega
        obtain ⟨b1, o1, rfl, hb1, hc1⟩ := HX.out k hlt
        obtain ⟨b2, o2, rfl, hb2, hc2⟩ := HY.out k hlt2
        obtain ⟨u, hu⟩ : ∃ u, x[k] = u := ⟨_, rfl⟩
        obtain ⟨v, hv⟩ : ∃ v, y[k] = v := ⟨_, rfl⟩
        rw [hu] at hc1
        rw [hv] at hc2
        have x0 : wr.cell? ⟨b1, o1 + k, none⟩ = some (.string u) := by rw [HM.out]; exact hc1
        have x1 : wr.cell? ⟨b2, o2 + k, none⟩ = some (.string v) := by rw [HM.out]; exact hc2
        clear hc1 hc2
        by_cases he : u = v
        · have qe := str_eq_yes he
          have HN := Lib.hid (show ∀ j (h1 : j < x.length) (h2 : j < y.length), j < k + 1 → x[j] = y[j] from fun j h1 h2 h => by
            by_cases hjk : j = k
            · subst hjk; rw [hu, hv, he]
            · exact HA.out j h1 h2 (by omega))
          clear he hu hv
          go_wp2
          go_quiet (fail)
          go_wp2
          go_roundw
          case rel => exact ⟨k + 1, by omega, by go_num, HN, _, Lib.hid (by rw [HM.out, World.drewN_drewN])⟩
          case measure => simp [intOf]; omega
        · have qe := str_eq_no he
          have HF := Lib.hid (rowsEq_differ hlt hlt2 (by rw [hu, hv]; exact he))
          clear he hu hv
          go_wp2
          go_quiet (fail)
          go_wp2
          go_ret
          exact ⟨_, ret_bool (by rw [HF.out]), by rw [HM.out, World.drewN_drewN]⟩
      · have HF := Lib.hid (rowsEq_same HL.out (fun j h1 h2 => HA.out j h1 h2 (by omega)))
        go_wp2
        go_ret
        exact ⟨m, ret_bool (by rw [HF.out]), HM.out⟩
  · have q : (((x.length : Nat) : Int) != (y.length : Int)) = true := by simp; omega
    have HF := Lib.hid (rowsEq_long hl)
    clear hl
    go_enter Tryd.func26, Tryd.ntmps26
    go_wp2
    go_ret
    exact ⟨0, ret_bool (by rw [HF.out]), rfl⟩
end Go.Proofs.YtckhjhgddnjfpaaDoor
