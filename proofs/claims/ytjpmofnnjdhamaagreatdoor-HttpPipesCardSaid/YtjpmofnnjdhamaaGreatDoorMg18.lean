/-
  The length that Content-Length says.
  A request's target; a response's first line.
-/
import Derived.Lib.CutLaws
import Derived.Test.YtjpmofnnjdhamaaGreatDoorMg15
import Derived.Test.YtjpmofnnjdhamaaGreatDoorMg17
namespace Go.Proofs.YtjpmofnnjdhamaaGreatDoor
open Go.RowKit HeadMath NormMath NormS HeadS ChunkMath HttpMath

theorem pieceOf_size (v : ByteArray) : (pieceOf v).size ≤ v.size := by
  unfold pieceOf
  exact trimSize (by rw [extract_size _ _ _ (Nat.zero_le _) (endOf_le v)]; have := endOf_le v; omega)
theorem partsF_mem : ∀ (n : Nat) (v : ByteArray), v.size ≤ n → ∀ p ∈ partsF v, p.size ≤ v.size := by
  intro n
  induction n with
  | zero =>
    intro v hv p hp
    rw [partsF_nil (by omega)] at hp
    cases hp
  | succ n ih =>
    intro v hv p hp
    by_cases h0 : v.size = 0
    · rw [partsF_nil h0] at hp; cases hp
    · have hr := restOf_size v
      by_cases h1 : (pieceOf v).size = 0
      · rw [partsF_skip h0 h1] at hp
        have := ih (restOf v) (by omega) p hp
        omega
      · rw [partsF_take h0 h1] at hp
        rcases List.mem_cons.1 hp with rfl | hp
        · exact pieceOf_size v
        · have := ih (restOf v) (by omega) p hp
          omega
theorem listF_mem {n : ByteArray} {l : Fs} {c : Nat} (h : ∀ j (h : j < l.length), l[j].2.size ≤ c) : ∀ p ∈ listF n l, p.size ≤ c := by
  intro p hp
  unfold listF at hp
  obtain ⟨v, hv, hp⟩ := List.mem_flatMap.1 hp
  have h1 := allF_size (n := n) h v hv
  have h2 := partsF_mem _ v (Nat.le_refl _) p hp
  omega
theorem partsF_len : ∀ (n : Nat) (v : ByteArray), v.size ≤ n → (partsF v).length ≤ v.size := by
  intro n
  induction n with
  | zero =>
    intro v hv
    rw [partsF_nil (by omega)]
    simp
  | succ n ih =>
    intro v hv
    by_cases h0 : v.size = 0
    · rw [partsF_nil h0]; simp
    · have hr := restOf_size v
      have := ih (restOf v) (by omega)
      by_cases h1 : (pieceOf v).size = 0
      · rw [partsF_skip h0 h1]; omega
      · rw [partsF_take h0 h1, List.length_cons]; omega
theorem flat_len : ∀ (L : List ByteArray) (c : Nat), (∀ v ∈ L, v.size ≤ c) → (L.flatMap partsF).length ≤ L.length * c
  | [], _, _ => by simp
  | v :: L, c, h => by
    have h1 := partsF_len _ v (Nat.le_refl _)
    have h2 := h v (by simp)
    have h3 := flat_len L c (fun x hx => h x (by simp [hx]))
    rw [List.flatMap_cons, List.length_append, List.length_cons, Nat.add_mul]
    omega
theorem listF_len {n : ByteArray} {l : Fs} (hl : l.length ≤ 1000000) (h : ∀ j (h : j < l.length), l[j].2.size ≤ 1000000) : (listF n l).length ≤ 1000000000000 := by
  have h1 := flat_len (allF n l) 1000000 (allF_size (n := n) h)
  have h2 := allF_len n l
  have h3 : (allF n l).length * 1000000 ≤ 1000000 * 1000000 := Nat.mul_le_mul_right _ (by omega)
  unfold listF
  omega
def NumPost (r : Except Nat Nat) (w : World) (e : Ending) (w' : World) : Prop := match r with
  | .error n => FellH n w e w'
  | .ok n => e = .returned (.int .i64 n) ∧ Spares nowhere w w'
/-- A row of texts, as its cells. -/
theorem rowS_shape {B : Nat} {w : World} {v : Value} {A : List ByteArray} (h : w.ownsRow B 9 1 v A.length (strCells A)) : ∃ a1 cap1, v = .slice a1 A.length cap1 ∧ ∀ k (h : k < A.length), ∃ g, a1 = some ⟨g, 0, none⟩ ∧ g < w.heap.size ∧ w.cell? ⟨g, k, none⟩ = some (.string A[k]) := by
  obtain ⟨a1, cap1, rfl⟩ : ∃ a1 cap1, v = .slice a1 A.length cap1 := by
    rcases h.2 with ⟨h, h0⟩ | ⟨g, c, cur, h, _⟩
    · exact ⟨none, 0, by rw [h, h0]⟩
    · exact ⟨_, _, h⟩
  refine ⟨a1, cap1, rfl, fun k hk => ?_⟩
  rcases h.2 with ⟨_, h0⟩ | ⟨g, c, cur, h1, _⟩
  · omega
  · cases h1
    refine ⟨g, rfl, (h.lt g rfl).2, ?_⟩
    rw [World.ownsRow.cellAt h k (by omega), strCells_at hk]
set_option maxHeartbeats 4000000 in
theorem length_any' (l : Fs) (a : Option Addr) (cap k : Nat) (w : World) (hk : k = l.length) (hin : FieldsIn w.heap.size w a l) (hsm : SmallF l) (hle : l.length ≤ 1000000) (hvs : ∀ j (h : j < l.length), l[j].2.size ≤ 1000000) :
    Calls Tryz.prog 76 #[.slice a k cap] w (NumPost (sizeF l) w) := by
  subst hk
  have c := list_any l nCL a cap w hin hsm hle hvs (by decide)
  have hmem := listF_mem (n := nCL) hvs
  have hlen := listF_len (n := nCL) hle hvs
  obtain ⟨R, hR⟩ : ∃ R, sizeF l = R := ⟨_, rfl⟩
  rw [hR]
  have HR : Hid (sizeL (listF nCL l) = R) := Lib.hid hR
  obtain ⟨A, hA⟩ : ∃ A, listF nCL l = A := ⟨_, rfl⟩
  rw [hA] at c hmem HR hlen
  obtain ⟨m, hm⟩ : ∃ m, l.length = m := ⟨_, rfl⟩
  rw [hm] at c ⊢
  have HMEM := Lib.hid hmem
  clear hin hsm hle hm hR hA hvs hmem
  unfold nCL at c
  have c1 : ∀ k w, Calls Tryz.prog 41 #[.bool true, .int .i64 k] w fun e w' => e = .returned (.tuple #[]) ∧ w' = w := demand_yes
  have c2 : ∀ (k : Nat) w, Calls Tryz.prog 41 #[.bool false, .int .i64 k] w fun e w' => e = FaultH k ∧ w' = w := demand_no
  unfold FaultH at c2
  go_enter Tryz.func76, Tryz.ntmps76
  go_wp2_with fail
  refine c.mono ?_
  rintro e w1 ⟨v, rfl, hown, hb⟩
  have HS : Hid (Spares nowhere w w1) := Lib.hid (Below.spares (F := nowhere) hb (fun k hk => .inr hk))
  obtain ⟨a1, cap1, rfl, hc⟩ := rowS_shape hown
  have HC := Lib.hid hc
  clear c hb hc hown
  cases A with
  | nil =>
    have HF : Hid (R = .ok 0) := Lib.hid HR.out.symm
    go_wp2
    go_ret
    rw [HF.out]
    exact ⟨rfl, HS.out⟩
  | cons x r =>
    obtain ⟨g, e, hg, x0⟩ := HC.out 0 (by simp)
    subst e
    rw [List.getElem_cons_zero] at x0
    obtain ⟨n, hn⟩ : ∃ n, (x :: r).length = n := ⟨_, rfl⟩
    have HN := Lib.hid hn
    have n1 : 1 ≤ n := by rw [← hn]; simp
    have n3 : n ≤ 1000000000000 := by rw [← hn]; exact hlen
    clear hlen
    have n2 : ((n : Int) == 0) = false := beq_eq_false_iff_ne.2 (by omega)
    rw [hn]
    clear hn
    go_wp2
    go_loopw [15] (fun i wr => ∃ j : Nat, j ≤ n ∧ i = .int .i64 j ∧ wr = w1 ∧ Hid (∀ i (h : i < (x :: r).length), i < j → (x :: r)[i] = x)) (fun i _ => n - (intOf i).toNat)
    case atStart => exact ⟨0, Nat.zero_le _, rfl, rfl, Lib.hid (fun i _ h => absurd h (Nat.not_lt_zero _))⟩
    case round =>
      obtain ⟨j, hj, rfl, rfl, HA⟩ := hrel
      by_cases hlt : j < n
      · have hjL : j < (x :: r).length := by rw [HN.out]; exact hlt
        obtain ⟨g2, e, _, y0⟩ := HC.out j hjL
        injection e with e
        injection e with e1
        subst e1
        obtain ⟨y, hy⟩ : ∃ y, (x :: r)[j] = y := ⟨_, rfl⟩
        rw [hy] at y0
        have HY := Lib.hid hy
        clear hy
        have i1 : (j : Int) < (n : Int) := by omega
        by_cases he : y = x
        · have q := strEq_yes he
          have HA1 : Hid (∀ i (h : i < (x :: r).length), i < j + 1 → (x :: r)[i] = x) := Lib.hid (fun i h hi => by
            by_cases e : i = j
            · subst e; rw [HY.out]; exact he
            · exact HA.out i h (by omega))
          clear he
          go_wp2_with fail
          refine (c1 94 _).mono ?_
          rintro _ w4 ⟨rfl, hw⟩
          replace hw := hw.symm
          subst hw
          go_wp2
          go_roundw
          case rel => exact ⟨j + 1, by omega, by go_num, trivial, HA1⟩
          case measure => simp [intOf]; omega
        · have q := strEq_no he
          have HF : Hid (R = .error 94) := Lib.hid (by
            rw [← HR.out]
            show (if r.all (fun y => y.data.toList == x.data.toList) = true then _ else Except.error 94) = _
            rw [if_neg]
            intro h
            rw [List.all_eq_true] at h
            cases j with
            | zero => exact he (by rw [← HY.out]; rfl)
            | succ j =>
              have hm : y ∈ r := by rw [← HY.out, List.getElem_cons_succ]; exact List.getElem_mem _
              exact he (data_inj (beq_iff_eq.1 (h y hm))))
          clear he
          go_wp2_with fail
          refine (c2 94 _).mono ?_
          rintro _ w4 ⟨rfl, hw⟩
          replace hw := hw.symm
          subst hw
          go_wp2
          rw [HF.out]
          exact ⟨rfl, rfl, HS.out⟩
      · have hall : r.all (fun y => y.data.toList == x.data.toList) = true := by
          rw [List.all_eq_true]
          intro y hy
          obtain ⟨i, hi, rfl⟩ := List.getElem_of_mem hy
          have := HA.out (i + 1) (by simpa using hi) (by have := HN.out; simp at this; omega)
          rw [List.getElem_cons_succ] at this
          rw [this]; simp
        have HF : Hid (R = match DateMath.numF x.data.toList 18 with
          | none => .error 94
          | some n => .ok n) := Lib.hid (by
          rw [← HR.out]
          show (if r.all (fun y => y.data.toList == x.data.toList) = true then _ else Except.error 94) = _
          rw [if_pos hall]
          cases DateMath.numF x.data.toList 18 <;> rfl)
        have cN := fun w => numberD_any x 18 w (by decide) (by have := HMEM.out x (by simp); omega)
        obtain ⟨o, ho⟩ : ∃ o, DateMath.numF x.data.toList 18 = o := ⟨_, rfl⟩
        rw [ho] at cN HF
        clear ho hall
        have i1 : ¬ (j : Int) < (n : Int) := by omega
        cases o with
        | none =>
          unfold numV at cN
          simp only [Option.getD_none, Option.isSome_none] at cN
          go_wp2_with fail
          refine (cN _).mono ?_
          rintro _ w4 ⟨rfl, hw⟩
          replace hw := hw.symm
          subst hw
          go_wp2_with fail
          refine (c2 94 _).mono ?_
          rintro _ w4 ⟨rfl, hw⟩
          replace hw := hw.symm
          subst hw
          go_wp2
          rw [HF.out]
          exact ⟨rfl, rfl, HS.out⟩
        | some q =>
          unfold numV at cN
          simp only [Option.getD_some, Option.isSome_some] at cN
          go_wp2_with fail
          refine (cN _).mono ?_
          rintro _ w4 ⟨rfl, hw⟩
          replace hw := hw.symm
          subst hw
          go_wp2_with fail
          refine (c1 94 _).mono ?_
          rintro _ w4 ⟨rfl, hw⟩
          replace hw := hw.symm
          subst hw
          go_wp2
          go_ret
          rw [HF.out]
          exact ⟨rfl, HS.out⟩
end Go.Proofs.YtjpmofnnjdhamaaGreatDoor
namespace Go.Proofs.YtjpmofnnjdhamaaGreatDoor
open Go.RowKit HeadMath NormMath NormS HeadS ChunkMath HttpMath

theorem targetF_no {s : ByteArray} {k : Nat} (h : k < s.size) (hb : targetB s[k] = false) : targetF s.data.toList = false := by
  unfold targetF
  have : s.data.toList.all targetB = false := by
    rw [List.all_eq_false]
    exact ⟨s[k], by rw [← Lib.data_getElem? s k h |> List.mem_of_getElem? |> fun h => (show s[k] = s[k] from rfl)]; exact List.mem_of_getElem? (Lib.data_getElem? s k h), by rw [hb]; decide⟩
  rw [this]; rfl
set_option maxHeartbeats 2000000 in
theorem target_any (s : ByteArray) (w : World) (hs : s.size ≤ 1000000) : Calls Tryz.prog 43 #[.string s] w fun e w' => e = .returned (.bool (targetF s.data.toList)) ∧ w' = w := by
  have cH := Tryz.strings_HasPrefix s ⟨#[47]⟩ w
  go_enter Tryz.func43, Tryz.ntmps43
  go_wp2
  go_loopw [6] (fun i wr => ∃ k : Nat, k ≤ s.size ∧ i = .int .i64 k ∧ wr = w ∧ Hid ((s.data.toList.take k).all targetB = true)) (fun i _ => s.size - (intOf i).toNat)
  case atStart => exact ⟨0, Nat.zero_le _, rfl, rfl, Lib.hid rfl⟩
  case round =>
    obtain ⟨k, hk, rfl, rfl, HA⟩ := hrel
    by_cases hlt : k < s.size
    · obtain ⟨x, hx⟩ : ∃ x : UInt8, s[k]'hlt = x := ⟨_, rfl⟩
      have HX := Lib.hid hx
      have l1 : (k : Int) < (s.size : Int) := by omega
      by_cases h1 : x.toNat < 33
      · have HF : Hid (targetF s.data.toList = false) := Lib.hid (targetF_no hlt (by rw [hx]; unfold targetB; simp; omega))
        have d1 : decide ((x.toNat : Int) < 33) = true := by simp; omega
        go_wp2
        go_ret
        exact ⟨by rw [HF.out]; rfl, rfl⟩
      · have d1 : decide ((x.toNat : Int) < 33) = false := by simp; omega
        by_cases h2 : 126 < x.toNat
        · have HF : Hid (targetF s.data.toList = false) := Lib.hid (targetF_no hlt (by rw [hx]; unfold targetB; simp; omega))
          have d2 : decide ((126 : Int) < (x.toNat : Int)) = true := by simp; omega
          go_wp2
          go_ret
          exact ⟨by rw [HF.out]; rfl, rfl⟩
        · have d2 : decide ((126 : Int) < (x.toNat : Int)) = false := by simp; omega
          have HN : Hid ((s.data.toList.take (k + 1)).all targetB = true) := Lib.hid (by
            rw [List.take_succ_eq_append_getElem (by rw [size_list]; exact hlt), List.all_append, HA.out]
            have : s.data.toList[k]'(by rw [size_list]; exact hlt) = x := hx
            rw [this]
            unfold targetB; simp; omega)
          go_wp2
          go_roundw
          case rel => exact ⟨k + 1, by omega, by go_num, trivial, HN⟩
          case measure => simp [intOf]; omega
    · have HF : Hid (targetF s.data.toList = Lib.hasPrefix s.data.toList [47]) := Lib.hid (by
        have := HA.out
        rw [List.take_of_length_le (by rw [size_list]; omega)] at this
        unfold targetF; rw [this]; rfl)
      go_wp2_with fail
      refine cH.mono ?_
      rintro e w1 ⟨rfl, hw⟩
      replace hw := hw.symm
      subst hw
      go_wp2
      go_ret
      exact ⟨by rw [HF.out]; rfl, rfl⟩
end Go.Proofs.YtjpmofnnjdhamaaGreatDoor
