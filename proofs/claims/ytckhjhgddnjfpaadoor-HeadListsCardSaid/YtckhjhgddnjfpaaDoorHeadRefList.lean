/-
  The reference's List.
-/
import Derived.Test.YtckhjhgddnjfpaaDoorHeadRefs
namespace Go.Proofs.YtckhjhgddnjfpaaDoor
open Go.RowKit HeadMath

/-- Within a text: k bytes are read, the part at hand begins at f, q: within quotes; acc: what is told so far; T: all that will be. -/
def Lst (s : ByteArray) (T : List ByteArray) (k f : Nat) (q : Bool) (acc : List ByteArray) : Prop :=
  (k ≤ s.size ∧ f ≤ k ∧ (k - f) + endF q false (s.data.toList.drop k) = endF false false (s.data.toList.drop f) ∧ acc ++ partsF (s.extract f s.size) = T) ∨ (k = s.size + 1 ∧ acc = T)
theorem lst_in {s : ByteArray} {T acc : List ByteArray} {k f : Nat} {q : Bool} (h : Lst s T k f q acc) (hk : k ≤ s.size) : f ≤ k ∧ (k - f) + endF q false (s.data.toList.drop k) = endF false false (s.data.toList.drop f) ∧ acc ++ partsF (s.extract f s.size) = T := by
  rcases h with ⟨_, h1, h2, h3⟩ | ⟨h1, _⟩
  · exact ⟨h1, h2, h3⟩
  · omega
theorem lst_quote {s : ByteArray} {T acc : List ByteArray} {k f : Nat} {q : Bool} (h : Lst s T k f q acc) (hk : k < s.size) (hc : s[k] = 34) : Lst s T (k + 1) f (!q) acc := by
  obtain ⟨h1, h2, h3⟩ := lst_in h (Nat.le_of_lt hk)
  refine .inl ⟨hk, by omega, ?_, h3⟩
  rw [drop_at s k hk, hc] at h2
  cases q with
  | true =>
    simp only [endF, if_neg (show ¬ (34 : UInt8) = 92 by decide), if_true] at h2
    simp only [Bool.not_true]
    omega
  | false =>
    simp only [endF, if_true] at h2
    simp only [Bool.not_false]
    omega
theorem lst_skip {s : ByteArray} {T acc : List ByteArray} {k f : Nat} (h : Lst s T k f true acc) (hk : k + 1 < s.size) (hc : s[k] = 92) : Lst s T (k + 2) f true acc := by
  obtain ⟨h1, h2, h3⟩ := lst_in h (by omega)
  refine .inl ⟨hk, by omega, ?_, h3⟩
  rw [drop_at s k (by omega), hc, drop_at s (k + 1) hk] at h2
  simp only [endF, if_true] at h2
  rw [show k + 1 + 1 = k + 2 from rfl] at h2
  omega
theorem lst_last {s : ByteArray} {T acc : List ByteArray} {k f : Nat} (h : Lst s T k f true acc) (hk : k < s.size) (hk1 : ¬ k + 1 < s.size) (hc : s[k] = 92) : Lst s T (k + 1) f true acc := by
  obtain ⟨h1, h2, h3⟩ := lst_in h (by omega)
  refine .inl ⟨hk, by omega, ?_, h3⟩
  have hd : s.data.toList.drop (k + 1) = [] := List.drop_eq_nil_of_le (by rw [size_list]; omega)
  rw [drop_at s k hk, hc, hd] at h2
  simp only [endF, if_true] at h2
  rw [hd]
  simp only [endF]
  omega
theorem lst_other {s : ByteArray} {T acc : List ByteArray} {k f : Nat} {q : Bool} (h : Lst s T k f q acc) (hk : k < s.size) (h34 : s[k] ≠ 34) (h92 : q = true → s[k] ≠ 92) (h44 : q = false → s[k] ≠ 44) : Lst s T (k + 1) f q acc := by
  obtain ⟨h1, h2, h3⟩ := lst_in h (Nat.le_of_lt hk)
  refine .inl ⟨hk, by omega, ?_, h3⟩
  rw [drop_at s k hk] at h2
  cases q with
  | true =>
    simp only [endF, if_neg (h92 rfl), if_neg h34] at h2
    omega
  | false =>
    simp only [endF, if_neg h34, if_neg (h44 rfl)] at h2
    omega
/-- The part at hand. -/
def partAt (s : ByteArray) (f k : Nat) : ByteArray := ⟨(trimF (s.extract f k).data.toList).toArray⟩
def told (p : ByteArray) : List ByteArray := if p.size = 0 then [] else [p]
theorem extract_extract0 (s : ByteArray) (f k : Nat) (h1 : f ≤ k) (h2 : k ≤ s.size) : (s.extract f s.size).extract 0 (k - f) = s.extract f k := by
  apply data_inj
  rw [Lib.extract_data, Lib.extract_data, Lib.extract_data, List.drop_zero, Nat.sub_zero, List.take_take, Nat.min_eq_left (by omega)]
theorem endOf_at {s : ByteArray} {f : Nat} : endOf (s.extract f s.size) = endF false false (s.data.toList.drop f) := by
  unfold endOf
  rw [Lib.extract_to_end]
theorem lst_comma {s : ByteArray} {T acc : List ByteArray} {k f : Nat} (h : Lst s T k f false acc) (hk : k < s.size) (hc : s[k] = 44) : Lst s T (k + 1) (k + 1) false (acc ++ told (partAt s f k)) := by
  obtain ⟨h1, h2, h3⟩ := lst_in h (Nat.le_of_lt hk)
  refine .inl ⟨hk, Nat.le_refl _, by rw [Nat.sub_self, Nat.zero_add], ?_⟩
  rw [drop_at s k hk, hc] at h2
  simp only [endF, if_neg (show ¬ (44 : UInt8) = 34 by decide), if_true] at h2
  have hz : (s.extract f s.size).size = s.size - f := extract_size s f s.size (by omega) (Nat.le_refl _)
  have he : endOf (s.extract f s.size) = k - f := by rw [endOf_at]; omega
  have hp : pieceOf (s.extract f s.size) = partAt s f k := by
    unfold pieceOf partAt
    rw [he, extract_extract0 s f k h1 (by omega)]
  have hr : restOf (s.extract f s.size) = s.extract (k + 1) s.size := by
    unfold restOf
    rw [he, hz, Nat.min_eq_left (by omega), ← hz]
    apply data_inj
    rw [Lib.extract_to_end, Lib.extract_to_end, Lib.extract_to_end, List.drop_drop]
    congr 1
    omega
  have hpf : partsF (s.extract f s.size) = told (partAt s f k) ++ partsF (s.extract (k + 1) s.size) := by
    rw [partsF, dif_neg (by omega), hp, hr]
    rfl
  rw [List.append_assoc, ← hpf, h3]
theorem lst_end {s : ByteArray} {T acc : List ByteArray} {f : Nat} {q : Bool} (h : Lst s T s.size f q acc) (f' : Nat) (q' : Bool) : Lst s T (s.size + 1) f' q' (acc ++ told (partAt s f s.size)) := by
  obtain ⟨h1, h2, h3⟩ := lst_in h (Nat.le_refl _)
  refine .inr ⟨rfl, ?_⟩
  have hd : s.data.toList.drop s.size = [] := List.drop_eq_nil_of_le (by rw [size_list]; exact Nat.le_refl _)
  rw [hd] at h2
  have h2' : s.size - f = endF false false (s.data.toList.drop f) := by cases q <;> (simp only [endF] at h2; omega)
  have hz : (s.extract f s.size).size = s.size - f := extract_size s f s.size (by omega) (Nat.le_refl _)
  have he : endOf (s.extract f s.size) = s.size - f := by rw [endOf_at]; omega
  have hp : pieceOf (s.extract f s.size) = partAt s f s.size := by
    unfold pieceOf partAt
    rw [he, extract_extract0 s f s.size h1 (Nat.le_refl _)]
  have hpf : partsF (s.extract f s.size) = told (partAt s f s.size) := by
    by_cases h0 : (s.extract f s.size).size = 0
    · rw [partsF_nil h0]
      unfold told
      rw [if_pos]
      have := size_trim (s.extract f s.size)
      unfold partAt
      omega
    · rw [partsF, dif_neg h0, hp, partsF_nil (by rw [restOf_size, he, hz]; omega), List.append_nil]
      rfl
  rw [← hpf, h3]
theorem lst_start (s : ByteArray) (r : List ByteArray) : Lst s (r ++ partsF s) 0 0 false r := by
  refine .inl ⟨Nat.zero_le _, Nat.le_refl _, by simp, ?_⟩
  congr 1
  have : s.extract 0 s.size = s := by apply data_inj; rw [Lib.extract_to_end, List.drop_zero]
  rw [this]
theorem lst_out {s : ByteArray} {T acc : List ByteArray} {k f : Nat} {q : Bool} (h : Lst s T k f q acc) (hk : ¬ k ≤ s.size) : k = s.size + 1 ∧ acc = T := by
  rcases h with ⟨h1, _⟩ | h
  · exact absurd h1 hk
  · exact h
theorem told_len (p : ByteArray) : (told p).length ≤ 1 := by unfold told; split <;> simp

set_option maxRecDepth 100000 in
set_option maxHeartbeats 8000000 in
theorem refList_any (l : Fs) (x : ByteArray) (a : Option Addr) (cap n : Nat) (w : World) (hin : FieldsIn w.heap.size w a l) (hN : n = l.length) (hsm : SmallF l) (hle : l.length ≤ 100000) (hvs : ∀ j (h : j < l.length), l[j].2.size ≤ 1000000) (hx : x.size ≤ 140737488351232) :
    Calls Tryd.prog 30 #[.slice a n cap, .string x] w (RowPost w (listF x l)) := by
  have HC := Lib.hid ((refAll_any l x a cap n w hin hN hsm (by omega) hx).mono fun _ _ h => h.slice)
  have hal := allF_len x l
  have has := allF_size (n := x) hvs
  have HL := Lib.hid (show listF x l = (allF x l).flatMap partsF from rfl)
  obtain ⟨A, hA⟩ : ∃ A, allF x l = A := ⟨_, rfl⟩
  rw [hA] at HC hal has HL
  have HAS := Lib.hid has
  obtain ⟨nA, hnA⟩ : ∃ nA, A.length = nA := ⟨_, rfl⟩
  have HNA := Lib.hid hnA
  have hnA2 : nA ≤ 100000 := by omega
  rw [show (SSlice w A) = SSlice w A from rfl] at HC
  clear hin hN hsm hvs hA hal has hle
  go_enter Tryd.func30, Tryd.ntmps30
  go_wp2_with fail
  refine HC.out.mono ?_
  rintro e w1 ⟨a1, c1, rfl, hs1, hb1⟩
  rw [hnA]
  have HIN := Lib.hid hs1
  have HB1 := Lib.hid hb1
  clear hs1 hb1 HC hnA
  go_wp2
  go_loopw [5, 7] (fun v i wr => ∃ (k : Nat) (r : List ByteArray), k ≤ nA ∧ i = .int .i64 k ∧ Hid ((A.take k).flatMap partsF = r) ∧ r.length ≤ k * 1000001 ∧ Hid (OwnStrs w1.heap.size wr v r) ∧ Hid (Below w1.heap.size w1 wr)) (fun _ i _ => nA - (intOf i).toNat)
  case atStart => exact ⟨0, [], Nat.zero_le _, rfl, Lib.hid rfl, Nat.zero_le _, Lib.hid (World.ownsRow_nil _ _ _ _), Lib.hid (Below.refl _ _)⟩
  case round =>
    obtain ⟨k, r, hk, rfl, HR, hrl, HO, HB⟩ := hrel
    by_cases hlt : k < nA
    · have hlt2 : k < A.length := by have := HNA.out; omega
      obtain ⟨b, off, rfl, hbl, hc⟩ := HIN.out k hlt2
      have hssz := HAS.out _ (List.getElem_mem hlt2)
      have x0 := (HB.out.cell (p := ⟨b, off + k, none⟩) hbl).trans hc
      obtain ⟨s, hs⟩ : ∃ s, A[k] = s := ⟨_, rfl⟩
      rw [hs] at x0 hssz
      have HS := Lib.hid hs
      have i1 : (k : Int) < (nA : Int) := by omega
      obtain ⟨wo, hwo⟩ : ∃ wo : World, wo = wr := ⟨_, rfl⟩
      subst hwo
      obtain ⟨T, hT⟩ : ∃ T, r ++ partsF s = T := ⟨_, rfl⟩
      have HT := Lib.hid hT
      have HL0 := Lib.hid (lst_start s r)
      rw [hT] at HL0
      clear hc hs hT
      go_wp2
      go_loopw [5, 9, 10, 11] (fun v fv qv i wr => ∃ (j f : Nat) (q : Bool) (acc : List ByteArray), i = .int .i64 j ∧ fv = .int .i64 f ∧ qv = .bool q ∧ j ≤ s.size + 1 ∧ acc.length ≤ r.length + j ∧ Hid (Lst s T j f q acc) ∧ Hid (OwnStrs w1.heap.size wr v acc) ∧ Hid (Below w1.heap.size w1 wr)) (fun _ _ _ i _ => s.size + 1 - (intOf i).toNat)
      case atStart => exact ⟨0, 0, false, r, rfl, rfl, rfl, by omega, by omega, HL0, HO, HB⟩
      clear HL0 HO HB x0
      case round =>
        obtain ⟨j, f, q, acc, rfl, rfl, rfl, hj, hacc, HLS, HO, HB⟩ := hrel
        by_cases hjs : j ≤ s.size
        · have hjs1 : (j : Int) ≤ (s.size : Int) := by omega
          have hfj := (lst_in HLS.out hjs).1
          have hmn : min (j : Int) (s.size : Int) = (j : Int) := by omega
          by_cases hjl : j < s.size
          · have hjl1 : (j : Int) < (s.size : Int) := by omega
            have e34 := u8_beq_lit s[j] 34 (by omega)
            have e44 := u8_beq_lit s[j] 44 (by omega)
            have e92 := u8_beq_lit s[j] 92 (by omega)
            by_cases h34 : s[j] = 34
            · have q34 : ((s[j].toNat : Int) == 34) = true := by rw [h34]; rfl
              have q44 : ((s[j].toNat : Int) == 44) = false := by rw [h34]; rfl
              have q44' : ((s[j].toNat : Int) != 44) = true := by unfold bne; rw [q44]; rfl
              have HN := Lib.hid (lst_quote HLS.out hjl h34)
              clear e34 e44 e92 h34
              go_wp2
              go_roundw
              case rel => exact ⟨j + 1, f, !q, acc, by go_num, rfl, rfl, by omega, by omega, HN, HO, HB⟩
              case measure => simp [intOf]; omega
            · have q34 : ((s[j].toNat : Int) == 34) = false := e34.trans (by simpa using h34)
              cases q with
              | true =>
                by_cases h92 : s[j] = 92
                · have q92 : ((s[j].toNat : Int) == 92) = true := by rw [h92]; rfl
                  have q44 : ((s[j].toNat : Int) == 44) = false := by rw [h92]; rfl
                  have q44' : ((s[j].toNat : Int) != 44) = true := by unfold bne; rw [q44]; rfl
                  by_cases hj1 : j + 1 < s.size
                  · have HN := Lib.hid (lst_skip HLS.out hj1 h92)
                    have hj2 : (j : Int) + 1 < (s.size : Int) := by omega
                    clear e34 e44 e92 h34 h92
                    go_wp2
                    go_roundw
                    case rel => exact ⟨j + 2, f, true, acc, by go_num, rfl, rfl, by omega, by omega, HN, HO, HB⟩
                    case measure => simp [intOf]; omega
                  · have HN := Lib.hid (lst_last HLS.out hjl hj1 h92)
                    have hj2 : ¬ (j : Int) + 1 < (s.size : Int) := by omega
                    clear e34 e44 e92 h34 h92
                    go_wp2
                    go_roundw
                    case rel => exact ⟨j + 1, f, true, acc, by go_num, rfl, rfl, by omega, by omega, HN, HO, HB⟩
                    case measure => simp [intOf]; omega
                · have q92 : ((s[j].toNat : Int) == 92) = false := e92.trans (by simpa using h92)
                  have HN := Lib.hid (lst_other HLS.out hjl h34 (fun _ => h92) (fun h => by cases h))
                  obtain ⟨t44, ht44⟩ : ∃ t, ((s[j].toNat : Int) == 44) = t := ⟨_, rfl⟩
                  have q44' : ((s[j].toNat : Int) != 44) = !t44 := by unfold bne; rw [ht44]
                  clear e34 e44 e92 h34 h92
                  cases t44 with
                  | true =>
                    have q44'' : ((s[j].toNat : Int) != 44) = false := q44'
                    clear q44'
                    go_wp2
                    go_roundw
                    case rel => exact ⟨j + 1, f, true, acc, by go_num, rfl, rfl, by omega, by omega, HN, HO, HB⟩
                    case measure => simp [intOf]; omega
                  | false =>
                    have q44'' : ((s[j].toNat : Int) != 44) = true := q44'
                    clear q44'
                    go_wp2
                    go_roundw
                    case rel => exact ⟨j + 1, f, true, acc, by go_num, rfl, rfl, by omega, by omega, HN, HO, HB⟩
                    case measure => simp [intOf]; omega
              | false =>
                by_cases h44 : s[j] = 44
                · have q44 : ((s[j].toNat : Int) == 44) = true := by rw [h44]; rfl
                  have q44' : ((s[j].toNat : Int) != 44) = false := by unfold bne; rw [q44]; rfl
                  have HN := Lib.hid (lst_comma HLS.out hjl h44)
                  clear e34 e44 e92 h34 h44
                  have hfj1 : (f : Int) ≤ (j : Int) := by omega
                  obtain ⟨pc, hpc⟩ : ∃ pc, partAt s f j = pc := ⟨_, rfl⟩
                  rw [hpc] at HN
                  have HPC := Lib.hid (show (⟨(trimF (s.extract f j).data.toList).toArray⟩ : ByteArray) = pc from hpc)
                  have hx1 : (s.extract f j).size ≤ 140737488351232 := by rw [extract_size s f j hfj (by omega)]; omega
                  clear hpc
                  go_wp2_with fail
                  refine (refTrim_named _ hx1 HPC.out).mono ?_
                  rintro e w3 ⟨rfl, rfl⟩
                  by_cases hp0 : pc.size = 0
                  · have qe := isEmpty_yes hp0
                    have HN2 : Hid (Lst s T (j + 1) (j + 1) false acc) := Lib.hid (by have := HN.out; unfold told at this; rw [if_pos hp0, List.append_nil] at this; exact this)
                    clear hp0 HN
                    go_wp2
                    go_roundw
                    case rel => exact ⟨j + 1, j + 1, false, acc, by go_num, by go_num, rfl, by omega, by omega, HN2, HO, HB⟩
                    case measure => simp [intOf]; omega
                  · have qe := isEmpty_no hp0
                    have HN2 : Hid (Lst s T (j + 1) (j + 1) false (acc ++ [pc])) := Lib.hid (by have := HN.out; unfold told at this; rw [if_neg hp0] at this; exact this)
                    have HO2 := Lib.hid (show OwnStrs w1.heap.size (wr.alloc (.cells #[.string pc] 9)) u5 acc from HO.out.alloc _)
                    have HS2 := Lib.hid (strsIn_one wr 9 pc)
                    have HB2 := Lib.hid (HB.out.alloc (o := .cells #[.string pc] 9) HB.out.size)
                    have HLEN := Lib.hid (show acc.length + [pc].length ≤ 1000000000000 by simp; omega)
                    clear hp0 HN
                    go_wp2_with (at_builtin; refine wpList_append_strs rfl _ _ rfl w1.heap.size (wr.alloc (.cells #[.string pc] 9)).heap.size u5 acc rfl HO2.out HB2.out.size (some ⟨wr.heap.size, 0, none⟩) 1 1 [pc] rfl rfl HS2.out (fun e => by cases e) HLEN.out ?_)
                    intro v4 w4 ho4 hg4
                    have HO4 := Lib.hid ho4
                    have HB4 := Lib.hid (HB2.out.grown hg4 HB2.out.size (fun g hg => (World.ownsRow.lt HO2.out g hg).1))
                    clear ho4 hg4 HO2 HS2 HB2
                    go_wp2
                    go_roundw
                    case rel => exact ⟨j + 1, j + 1, false, acc ++ [pc], by go_num, by go_num, rfl, by omega, by simp; omega, HN2, HO4, HB4⟩
                    case measure => simp [intOf]; omega
                · have q44 : ((s[j].toNat : Int) == 44) = false := e44.trans (by simpa using h44)
                  have q44' : ((s[j].toNat : Int) != 44) = true := by unfold bne; rw [q44]; rfl
                  have HN := Lib.hid (lst_other HLS.out hjl h34 (fun h => by cases h) (fun _ => h44))
                  obtain ⟨t92, ht92⟩ : ∃ t, ((s[j].toNat : Int) == 92) = t := ⟨_, rfl⟩
                  clear e34 e44 e92 h34 h44
                  cases t92 with
                  | true =>
                    go_wp2
                    go_roundw
                    case rel => exact ⟨j + 1, f, false, acc, by go_num, rfl, rfl, by omega, by omega, HN, HO, HB⟩
                    case measure => simp [intOf]; omega
                  | false =>
                    go_wp2
                    go_roundw
                    case rel => exact ⟨j + 1, f, false, acc, by go_num, rfl, rfl, by omega, by omega, HN, HO, HB⟩
                    case measure => simp [intOf]; omega
          · obtain rfl : j = s.size := by omega
            have hjl1 : ¬ (s.size : Int) < (s.size : Int) := by omega
            have HN := Lib.hid (lst_end HLS.out (s.size + 1) q)
            have hfj1 : (f : Int) ≤ (s.size : Int) := by omega
            obtain ⟨pc, hpc⟩ : ∃ pc, partAt s f s.size = pc := ⟨_, rfl⟩
            rw [hpc] at HN
            have HPC := Lib.hid (show (⟨(trimF (s.extract f s.size).data.toList).toArray⟩ : ByteArray) = pc from hpc)
            have hx1 : (s.extract f s.size).size ≤ 140737488351232 := by rw [extract_size s f s.size hfj (by omega)]; omega
            clear hpc
            go_wp2_with fail
            refine (refTrim_named _ hx1 HPC.out).mono ?_
            rintro e w3 ⟨rfl, rfl⟩
            by_cases hp0 : pc.size = 0
            · have qe := isEmpty_yes hp0
              have HN2 : Hid (Lst s T (s.size + 1) (s.size + 1) q acc) := Lib.hid (by have := HN.out; unfold told at this; rw [if_pos hp0, List.append_nil] at this; exact this)
              clear hp0 HN
              go_wp2
              go_roundw
              case rel => exact ⟨s.size + 1, s.size + 1, q, acc, by go_num, by go_num, rfl, by omega, by omega, HN2, HO, HB⟩
              case measure => simp [intOf]
            · have qe := isEmpty_no hp0
              have HN2 : Hid (Lst s T (s.size + 1) (s.size + 1) q (acc ++ [pc])) := Lib.hid (by have := HN.out; unfold told at this; rw [if_neg hp0] at this; exact this)
              have HO2 := Lib.hid (show OwnStrs w1.heap.size (wr.alloc (.cells #[.string pc] 9)) u5 acc from HO.out.alloc _)
              have HS2 := Lib.hid (strsIn_one wr 9 pc)
              have HB2 := Lib.hid (HB.out.alloc (o := .cells #[.string pc] 9) HB.out.size)
              have HLEN := Lib.hid (show acc.length + [pc].length ≤ 1000000000000 by simp; omega)
              clear hp0 HN
              go_wp2_with (at_builtin; refine wpList_append_strs rfl _ _ rfl w1.heap.size (wr.alloc (.cells #[.string pc] 9)).heap.size u5 acc rfl HO2.out HB2.out.size (some ⟨wr.heap.size, 0, none⟩) 1 1 [pc] rfl rfl HS2.out (fun e => by cases e) HLEN.out ?_)
              intro v4 w4 ho4 hg4
              have HO4 := Lib.hid ho4
              have HB4 := Lib.hid (HB2.out.grown hg4 HB2.out.size (fun g hg => (World.ownsRow.lt HO2.out g hg).1))
              clear ho4 hg4 HO2 HS2 HB2
              go_wp2
              go_roundw
              case rel => exact ⟨s.size + 1, s.size + 1, q, acc ++ [pc], by go_num, by go_num, rfl, by omega, by simp; omega, HN2, HO4, HB4⟩
              case measure => simp [intOf]
        · obtain ⟨rfl, hacT⟩ := lst_out HLS.out hjs
          have hjs1 : ¬ ((s.size + 1 : Nat) : Int) ≤ (s.size : Int) := by omega
          have hjs2 : ¬ (s.size : Int) + 1 ≤ (s.size : Int) := by omega
          have HN := Lib.hid (show (A.take (k + 1)).flatMap partsF = acc from by
            rw [List.take_succ_eq_append_getElem hlt2, List.flatMap_append, HR.out, HS.out, hacT, ← HT.out]
            simp)
          clear hacT
          go_wp2
          go_roundw
          case rel => exact ⟨k + 1, acc, by omega, by go_num, HN, by omega, HO, HB⟩
          case measure => simp [intOf]; omega
    · have HN := Lib.hid (show listF x l = r from by
        have := HR.out
        rw [List.take_of_length_le (by have := HNA.out; omega)] at this
        rw [HL.out, this])
      go_wp2
      go_ret
      rw [HN.out]
      exact ⟨_, rfl, ownsRow_base HO.out HB1.out.size, HB1.out.trans (HB.out.mono HB1.out.size)⟩
end Go.Proofs.YtckhjhgddnjfpaaDoor
