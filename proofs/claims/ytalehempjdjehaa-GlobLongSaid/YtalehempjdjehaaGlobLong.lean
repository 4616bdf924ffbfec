/-
  Just how long a pattern may be: ambrylaw24.GlobLong returns true, whatever it is given.
-/
import Derived.Test.YtalehempjdjehaaGlobKnown
import Derived.Laws.BitsLemmas
import Derived.Laws.IdiomStrings
namespace Go.Proofs.Ytalehempjdjehaa
open Go.RowKit GlobMath

theorem byteInfo' : (Try.prog.info? 5).map (fun i => (i.zero, i.size, i.bytes)) = some (some (.int .u8 0), 1, 1) := by kernel_rfl

theorem i64_and3 (n : Int) : bits .and .i64 n 3 = n % 4 := by
  have h3 : (BitVec.ofInt 64 3).toNat = 2 ^ 2 - 1 := by decide
  have key : (BitVec.ofInt 64 n &&& BitVec.ofInt 64 3).toNat = (n % ((2 ^ 64 : Nat) : Int)).toNat % 2 ^ 2 := by
    rw [BitVec.toNat_and, BitVec.toNat_ofInt, h3, Nat.and_two_pow_sub_one_eq_mod]
  show IntKind.i64.wrap ((BitVec.ofInt 64 n &&& BitVec.ofInt 64 3).toNat : Nat) = n % 4
  rw [key, IntKind.wrap_i64]
  omega
theorem i64_and1 (n : Int) : bits .and .i64 n 1 = n % 2 := by
  have h1 : (BitVec.ofInt 64 1).toNat = 2 ^ 1 - 1 := by decide
  have key : (BitVec.ofInt 64 n &&& BitVec.ofInt 64 1).toNat = (n % ((2 ^ 64 : Nat) : Int)).toNat % 2 ^ 1 := by
    rw [BitVec.toNat_and, BitVec.toNat_ofInt, h1, Nat.and_two_pow_sub_one_eq_mod]
  show IntKind.i64.wrap ((BitVec.ofInt 64 n &&& BitVec.ofInt 64 1).toNat : Nat) = n % 2
  rw [key, IntKind.wrap_i64]
  omega
theorem length_of (n : Int) : ∃ K : Nat, 198 ≤ K ∧ K ≤ 202 ∧ wrap64 (198 + wrap64 (bits .and .i64 n 3 + bits .and .i64 (n / 4) 1)) = (K : Int) := by
  rw [i64_and3, i64_and1]
  refine ⟨(198 + (n % 4 + n / 4 % 2)).toNat, ?_, ?_, ?_⟩
  · omega
  · omega
  · unfold wrap64; omega

/-- A row of bytes: the first k are 97, the others 0. -/
def upTo (K k : Nat) : List UInt8 := (List.range K).map fun j => if j < k then 97 else 0
def byteCells' (l : List UInt8) : Array Value := (l.map fun b => Value.int .u8 b.toNat).toArray
theorem upTo_set (K k : Nat) (_h : k < K) : (byteCells' (upTo K k)).setIfInBounds k (.int .u8 97) = byteCells' (upTo K (k + 1)) := by
  apply Array.ext_getElem?
  intro i
  rw [Array.getElem?_setIfInBounds]
  simp only [byteCells', upTo, List.getElem?_toArray, List.size_toArray, List.length_map, List.length_range, List.getElem?_map]
  by_cases hi : i < K
  · rw [List.getElem?_range hi]
    by_cases h : k = i
    · subst h; simp [hi]
    · rw [if_neg h]
      by_cases h1 : i < k
      · simp [h1, Nat.lt_succ_of_lt h1]
      · have h2 : ¬ i < k + 1 := by omega
        simp [h1, h2]
  · have : (List.range K)[i]? = none := by simp; omega
    rw [this]
    by_cases h : k = i
    · subst h; simp [hi]
    · simp [h]
theorem upTo_get (K k j : Nat) (h : j < K) : (byteCells' (upTo K k))[j]? = some (.int .u8 (if j < k then (97 : UInt8) else 0).toNat) := by
  simp [byteCells', upTo, h]
theorem upTo_start (K : Nat) : byteCells' (upTo K 0) = (List.replicate K (Value.int .u8 0)).toArray := by
  simp [byteCells', upTo, List.map_const']
theorem upTo_end (K : Nat) : upTo K K = List.replicate K 97 := by
  apply List.ext_getElem <;> simp [upTo]

theorem literalF_as (K : Nat) : literalF (List.replicate K 97) = List.replicate K 97 := by
  induction K with
  | zero => rfl
  | succ K ih =>
    rw [List.replicate_succ]
    have : literalF (97 :: List.replicate K 97) = [97] ++ literalF (List.replicate K 97) := by simp [literalF, special]
    rw [this, ih]; rfl
theorem parts_as (K : Nat) : parts (List.replicate K 97) = some (lits (List.replicate K 97)) := by
  have h := parts_literal (List.replicate K 97) []
  rw [literalF_as, List.append_nil, parts_nil] at h
  simpa using h
theorem valid_as (K : Nat) : validF (List.replicate K 97) = decide (K ≤ 200) := by
  unfold validF
  rw [parts_as]; simp
theorem match_as (K : Nat) : matchF (List.replicate K 97) (List.replicate K 97) = decide (K ≤ 200) := by
  by_cases h : K ≤ 200
  · rw [match_lits (parts_as K) (by simpa using h)]; simp [h]
  · unfold matchF
    rw [if_pos (by simp; omega)]; simp [h]

theorem conv_as {w : World} {g K : Nat} (h : Blk w g 5 (byteCells' (List.replicate K 97))) :
    (convert 28 9 (.slice (some ⟨g, 0, none⟩) K K)).run Try.prog w = .ok (.string ⟨(List.replicate K 97).toArray⟩) w := by
  have := run_convert_bytes_back (P := Try.prog) w 28 9 5 ⟨g, 0, none⟩ K (List.replicate K 97) Try.underlying28 Try.underlying5 Try.underlying9 (fun j hj => by
    have e : (⟨g, 0, none⟩ : Addr).add j = ⟨g, j, none⟩ := by unfold Addr.add; by_cases h0 : j = 0 <;> simp [h0]
    rw [e, h.cell j]
    simp at hj
    simp [byteCells', hj])
  rwa [List.length_replicate] at this

set_option maxHeartbeats 1000000 in
theorem long_any (n : Int) (w : World) :
    Calls Try.prog 7 #[.int .i64 n] w fun e w' => e = .returned (.bool true) ∧ Below w.heap.size w w' := by
  obtain ⟨i0, hi, hz0, hz1, hz2⟩ := info_parts byteInfo'
  obtain ⟨K, hK1, hK2, hK⟩ := length_of n
  go_enter Try.func7, Try.ntmps7
  go_wp2_with (first | (go_at_call 8; refine (known_any _).mono ?_; rintro e w1 ⟨rfl, hb1⟩) | (at_make; refine wpList_make_full _ rfl _ _ 28 rfl w1.heap.size 5 i0 (.int .u8 0) 1 Try.underlying28 hi hz0 hz1 .i64 .i64 _ _ K rfl rfl ?a1 ?a2 ?a3 ?a4 ?a5 ?_))
  case a1 => exact hK
  case a2 => exact hK
  case a3 => rw [hz2]; omega
  case a4 => unfold maxLen; omega
  case a5 => exact Nat.le_refl _
  intro w2 hown2 hg2
  have hb2 : Below w.heap.size w w2 := hb1.grown hg2 hb1.size (by intro k hk; cases hk)
  have hA : Blk w2 w1.heap.size 5 (byteCells' (upTo K 0)) := by
    have h1 := Blk.of_own hown2
    rw [upTo_start]
    have e : (madeCells #[Value.int .u8 0] K).toList = List.replicate K (Value.int .u8 0) := toList_madeCells_one _ _
    rw [e] at h1
    exact h1
  have hlt1 : w.heap.size ≤ w1.heap.size := hb1.size
  clear hown2 hg2 hK
  go_wp2
  go_loopw [5] (fun i wr => ∃ k : Nat, k ≤ K ∧ i = .int .i64 k ∧ Blk wr w1.heap.size 5 (byteCells' (upTo K k)) ∧ Below w.heap.size w wr)
    (fun i _ => K - (intOf i).toNat)
  case atStart => exact ⟨0, Nat.zero_le _, rfl, hA, hb2⟩
  case round =>
    obtain ⟨k, hk, rfl, hAr, hbr⟩ := hrel
    clear hA hb2
    by_cases hlt : k < K
    · have a0 := hAr.cell k
      rw [upTo_get K k k hlt] at a0
      have f0 := hAr.frozen k
      go_wp2
      go_roundw
      case rel =>
        refine ⟨k + 1, by omega, by go_num, ?_, hbr.setCell (by simpa using hlt1) _⟩
        rw [← upTo_set K k hlt]
        exact hAr.set_ k _
      case measure => simp [intOf]; omega
    · have hkK : k = K := by omega
      subst hkK
      rw [upTo_end] at hAr
      have HA := Lib.hid hAr
      have hv := valid_as k
      have hm := match_as k
      by_cases hle : (k : Int) ≤ 200
      all_goals
        have hd : decide (k ≤ 200) = decide ((k : Int) ≤ 200) := by rw [decide_eq_decide]; omega
        rw [hd] at hv hm
      · rw [decide_eq_true hle] at hv hm
        have HV := Lib.hid hv
        have HM := Lib.hid hm
        have c0 := conv_as HA.out
        clear hv hm hd hAr
        go_wp2_with fail
        refine (valid_at _ 0 _ (by have := HV.out; simp [this]) (by simp [ByteArray.size]; omega)).mono ?_
        rintro e w3 ⟨rfl, hb3⟩
        have hA3 := HA.out.below hb3 HA.out.lt
        have hbr3 := hbr.trans (hb3.mono hbr.size)
        have c1 := conv_as hA3
        clear c0 hA3 hb3
        go_wp2_with fail
        refine (match_at _ _ true _ (by have := HM.out; simpa using this) (by simp [ByteArray.size]; omega) (by simp [ByteArray.size]; omega)).mono ?_
        rintro e w4 ⟨rfl, hb4⟩
        have hbr4 := hbr3.trans (hb4.mono hbr3.size)
        clear c1 hb4
        go_wp2
        go_ret
        exact ⟨rfl, hbr4⟩
      · have hgt : (200 : Int) < k := by omega
        rw [decide_eq_false hle] at hv hm
        have HV := Lib.hid hv
        have HM := Lib.hid hm
        have c0 := conv_as HA.out
        have hq : decide ((k : Int) ≤ 200) = false := by simpa using hle
        clear hv hm hd hAr hle
        go_wp2_with fail
        refine (valid_at _ 120 _ (by have := HV.out; simp [this]) (by simp [ByteArray.size]; omega)).mono ?_
        rintro e w3 ⟨rfl, hb3⟩
        have hA3 := HA.out.below hb3 HA.out.lt
        have hbr3 := hbr.trans (hb3.mono hbr.size)
        have c1 := conv_as hA3
        clear c0 hA3 hb3
        go_wp2_with fail
        refine (match_at _ _ false _ (by have := HM.out; simpa using this) (by simp [ByteArray.size]; omega) (by simp [ByteArray.size]; omega)).mono ?_
        rintro e w4 ⟨rfl, hb4⟩
        have hbr4 := hbr3.trans (hb4.mono hbr3.size)
        clear c1 hb4
        go_wp2
        go_ret
        exact ⟨rfl, hbr4⟩
end Go.Proofs.Ytalehempjdjehaa
