/-
  An address parted at its first question mark, in the program and in the reference.
  Small letters of a text, in the program and in the reference.
  A host in one form, in the program and in the reference.
-/
import Derived.Test.YthdolhfaiofogaaProg
import Derived.LoopTactic
import Derived.Outline
import Derived.WalkSpells
import Derived.WalkLawsBesides
import Derived.IntWalk
import Derived.Laws.BitsAllLaws
import Derived.Deep.QuietTactic
import Derived.BigQuiet
import Derived.Laws.IdiomStrings
import Derived.Laws.BytesString
import Derived.Deep.RegionWith
import Derived.Deep.AppendLies
import Derived.Laws.OwnMore
import Derived.Deep.Draws
import Derived.Laws.Rows
import Derived.Test.YthdolhfaiofogaaMg0
import Derived.Test.YthdolhfaiofogaaMg10
namespace Go.Proofs.Ythdolhfaiofogaa.NormS
open Go.RowKit HeadMath NormMath

def DrewPostN (w : World) (v : Value) (e : Ending) (w' : World) : Prop := ∃ m : Nat, e = .returned v ∧ w' = w.drewN m
def askAt (s : ByteArray) : Int := Lib.indexByte s.data.toList 63
theorem askAt_index (s : ByteArray) (w : World) :
    Calls Try.prog 56 #[.string s, .string { data := #[63] }] w fun e w' => e = .returned (.int .i64 (askAt s)) ∧ w' = w := Try.stringslite_Index_one s 63 w

set_option maxHeartbeats 2000000 in
theorem cutLite_none (s : ByteArray) (w : World) (_hs : s.size ≤ 140737488351232) (hi : askAt s < 0) : Calls Try.prog 48 #[.string s, .string { data := #[63] }] w (DrewPostN w (.tuple #[.string s, .string { data := #[] }, .bool false])) := by
  go_enter Try.func48, Try.ntmps48
  go_wp2_with fail
  refine (askAt_index _ _).mono ?_
  rintro e w1 ⟨rfl, rfl⟩
  go_wp2
  go_ret3
  exact ⟨0, rfl, rfl⟩

theorem ask_le (s : ByteArray) {i : Nat} (h : askAt s = i) : i < s.size := by
  have h1 := (Lib.indexByte_some h).1
  rcases Nat.lt_or_ge i s.data.toList.length with h2 | h2
  · rwa [size_list] at h2
  · rw [List.getElem?_eq_none h2] at h1; cases h1

set_option maxHeartbeats 2000000 in
theorem cutLite_some (s : ByteArray) (w : World) (hs : s.size ≤ 140737488351232) (i : Nat) (hi : askAt s = i) : Calls Try.prog 48 #[.string s, .string { data := #[63] }] w (DrewPostN w (.tuple #[.string (s.extract 0 i), .string (s.extract (i + 1) s.size), .bool true])) := by
  have hlt := ask_le s hi
  have hlen : ({ data := #[63] } : ByteArray).size = 1 := rfl
  have HI := Lib.hid hi
  clear hi
  go_enter Try.func48, Try.ntmps48
  go_wp2_with fail
  refine (askAt_index _ _).mono ?_
  rintro e w1 ⟨rfl, rfl⟩
  rw [HI.out]
  have hw : IntKind.i64.wrap ((i : Int) + 1) = (i : Int) + 1 := IntWalk.i64_in _ (by omega)
  go_wp2
  go_quiet (fail)
  go_wp2
  go_ret3
  exact ⟨_, rfl, rfl⟩


set_option maxHeartbeats 2000000 in
theorem cut_none (s : ByteArray) (w : World) (hs : s.size ≤ 140737488351232) (hi : askAt s < 0) : Calls Try.prog 39 #[.string s, .string { data := #[63] }] w (DrewPostN w (.tuple #[.string s, .string { data := #[] }, .bool false])) := by
  go_enter Try.func39, Try.ntmps39
  go_wp2_with fail
  refine (cutLite_none s _ hs hi).mono ?_
  rintro e w1 ⟨m, rfl, rfl⟩
  go_wp2
  go_ret3
  exact ⟨m, rfl, rfl⟩

set_option maxHeartbeats 2000000 in
theorem cut_some (s : ByteArray) (w : World) (hs : s.size ≤ 140737488351232) (i : Nat) (hi : askAt s = i) : Calls Try.prog 39 #[.string s, .string { data := #[63] }] w (DrewPostN w (.tuple #[.string (s.extract 0 i), .string (s.extract (i + 1) s.size), .bool true])) := by
  have HI := Lib.hid hi
  clear hi
  go_enter Try.func39, Try.ntmps39
  go_wp2_with fail
  refine (cutLite_some s _ hs i HI.out).mono ?_
  rintro e w1 ⟨m, rfl, rfl⟩
  go_wp2
  go_ret3
  exact ⟨m, rfl, rfl⟩
theorem ask_is {s : ByteArray} {k : Nat} (hk : k < s.size) (h : s[k] = 63) (hb : ∀ j (h : j < s.size), j < k → s[j] ≠ 63) : askAt s = (k : Int) := by
  have hl : s.data.toList[k]? = some 63 := by
    rw [List.getElem?_eq_getElem (by rw [size_list]; exact hk)]
    exact congrArg some h
  have hge := Lib.indexByte_ge s.data.toList 63
  unfold askAt
  rcases (show Lib.indexByte s.data.toList 63 < 0 ∨ 0 ≤ Lib.indexByte s.data.toList 63 by omega) with h0 | h0
  · exact absurd hl (Lib.indexByte_none (by omega) k)
  · obtain ⟨o, ho⟩ : ∃ o : Nat, Lib.indexByte s.data.toList 63 = o := ⟨(Lib.indexByte s.data.toList 63).toNat, by omega⟩
    obtain ⟨h1, h2⟩ := Lib.indexByte_some ho
    rw [ho]
    rcases Nat.lt_trichotomy o k with h3 | h3 | h3
    · have ho2 : o < s.size := by omega
      rw [List.getElem?_eq_getElem (by rw [size_list]; exact ho2)] at h1
      exact absurd (Option.some.inj h1) (hb o ho2 h3)
    · rw [h3]
    · exact absurd hl (h2 k h3)
theorem ask_no {s : ByteArray} (hb : ∀ j (h : j < s.size), s[j] ≠ 63) : askAt s < 0 := by
  have hge := Lib.indexByte_ge s.data.toList 63
  unfold askAt
  rcases (show Lib.indexByte s.data.toList 63 < 0 ∨ 0 ≤ Lib.indexByte s.data.toList 63 by omega) with h0 | h0
  · exact h0
  · obtain ⟨o, ho⟩ : ∃ o : Nat, Lib.indexByte s.data.toList 63 = o := ⟨(Lib.indexByte s.data.toList 63).toNat, by omega⟩
    obtain ⟨h1, h2⟩ := Lib.indexByte_some ho
    have ho2 : o < s.size := by
      rcases Nat.lt_or_ge o s.data.toList.length with h3 | h3
      · rwa [size_list] at h3
      · rw [List.getElem?_eq_none h3] at h1; cases h1
    rw [List.getElem?_eq_getElem (by rw [size_list]; exact ho2)] at h1
    exact absurd (Option.some.inj h1) (hb o ho2)
def splitV (s : ByteArray) : Value :=
  if askAt s < 0 then .tuple #[.string s, .string { data := #[] }, .bool false]
  else .tuple #[.string (s.extract 0 (askAt s).toNat), .string (s.extract ((askAt s).toNat + 1) s.size), .bool true]
theorem splitV_no {s : ByteArray} (h : askAt s < 0) : splitV s = .tuple #[.string s, .string { data := #[] }, .bool false] := by unfold splitV; rw [if_pos h]
theorem splitV_at {s : ByteArray} {i : Nat} (h : askAt s = i) : splitV s = .tuple #[.string (s.extract 0 i), .string (s.extract (i + 1) s.size), .bool true] := by
  unfold splitV; rw [if_neg (by omega), h]; rfl
set_option maxHeartbeats 2000000 in
theorem split_any (s : ByteArray) (w : World) (hs : s.size ≤ 140737488351232) : Calls Try.prog 25 #[.string s] w (DrewPostN w (splitV s)) := by
  by_cases h : askAt s < 0
  · have HV := Lib.hid (splitV_no h)
    go_enter Try.func25, Try.ntmps25
    go_wp2_with fail
    refine (cut_none s _ hs h).mono ?_
    rintro e w1 ⟨m, rfl, rfl⟩
    go_wp2
    go_ret3
    rw [HV.out]
    exact ⟨m, rfl, rfl⟩
  · obtain ⟨i, hi⟩ : ∃ i : Nat, askAt s = i := ⟨(askAt s).toNat, by omega⟩
    have HV := Lib.hid (splitV_at hi)
    have HI := Lib.hid hi
    clear h hi
    go_enter Try.func25, Try.ntmps25
    go_wp2_with fail
    refine (cut_some s _ hs i HI.out).mono ?_
    rintro e w1 ⟨m, rfl, rfl⟩
    go_wp2
    go_ret3
    rw [HV.out]
    exact ⟨m, rfl, rfl⟩
set_option maxHeartbeats 2000000 in
theorem refSplit_any (s : ByteArray) (w : World) (hs : s.size ≤ 140737488351232) : Calls Try.prog 16 #[.string s] w (DrewPostN w (splitV s)) := by
  go_enter Try.func16, Try.ntmps16
  go_wp2
  go_loop [5] (fun i => ∃ k : Nat, k ≤ s.size ∧ i = .int .i64 k ∧ Hid (∀ j (h : j < s.size), j < k → s[j] ≠ 63)) (fun i => s.size - (intOf i).toNat)
  case atStart => exact ⟨0, Nat.zero_le _, rfl, Lib.hid (fun j _ hj => by omega)⟩
  case round =>
    obtain ⟨k, hk, rfl, HA⟩ := hrel
    by_cases hlt : k < s.size
    · by_cases hc : s[k] = 63
      · have q : ((s[k].toNat : Int) == 63) = true := (u8_beq_lit _ 63 (by decide)).trans (by simpa using hc)
        have HV := Lib.hid (splitV_at (ask_is hlt hc HA.out))
        clear hc
        go_wp2
        go_quiet (fail)
        go_wp2
        go_ret3
        rw [HV.out]
        exact ⟨_, rfl, rfl⟩
      · have q : ((s[k].toNat : Int) == 63) = false := (u8_beq_lit _ 63 (by decide)).trans (by simpa using hc)
        have HN := Lib.hid (show ∀ j (h : j < s.size), j < k + 1 → s[j] ≠ 63 from fun j h1 h2 => by
          by_cases hjk : j = k
          · subst hjk; exact hc
          · exact HA.out j h1 (by omega))
        clear hc
        go_wp2
        go_round
        case rel => exact ⟨k + 1, by omega, by go_num, HN⟩
        case measure => simp [intOf]; omega
    · have HV := Lib.hid (splitV_no (ask_no (s := s) (fun j h => HA.out j h (by omega))))
      go_wp2
      go_ret3
      rw [HV.out]
      exact ⟨0, rfl, rfl⟩
end Go.Proofs.Ythdolhfaiofogaa.NormS
namespace Go.Proofs.Ythdolhfaiofogaa.NormS
open Go.RowKit HeadMath NormMath

def MBlk (w : World) (g : Nat) (t : TypeId) (cs : Array Value) (r : Nat × Nat) : Prop := w.heap[g]? = some (.cells cs t r)
section
variable {w w' : World} {g : Nat} {t : TypeId} {cs : Array Value} {r : Nat × Nat}
theorem MBlk.cell (h : MBlk w g t cs r) (i : Nat) : w.cell? ⟨g, i, none⟩ = cs[i]? := cell_of_row w g i cs t r h
theorem MBlk.frozen (h : MBlk w g t cs r) (i : Nat) (hi : i < r.1) : w.frozen? ⟨g, i, none⟩ = false := by
  unfold MBlk at h
  simp [World.frozen?, h]
  omega
theorem MBlk.new (w : World) (t : TypeId) (cs : Array Value) (r : Nat × Nat) : MBlk (w.alloc (.cells cs t r)) w.heap.size t cs r := heap_alloc_new w _
theorem MBlk.set_ (h : MBlk w g t cs r) (i : Nat) (u : Value) : MBlk (w.setCell ⟨g, i, none⟩ u) g t (cs.setIfInBounds i u) r := by
  unfold MBlk at h ⊢
  simp [World.setCell, Array.getElem?_modify, h]
end

/-- The text with small letters up to k. -/
def mixL (l : List UInt8) (k : Nat) : List UInt8 := (l.take k).map small ++ l.drop k
theorem mixL_len (l : List UInt8) (k : Nat) : (mixL l k).length = l.length := by
  simp [mixL]; omega
theorem mixL_zero (l : List UInt8) : mixL l 0 = l := by simp [mixL]
theorem mixL_get (l : List UInt8) (k j : Nat) (h : j < l.length) : (mixL l k)[j]? = some (if j < k then small l[j] else l[j]) := by
  unfold mixL
  by_cases hj : j < k
  · rw [List.getElem?_append_left (by simp; omega), if_pos hj]
    simp [hj, h]
  · rw [List.getElem?_append_right (by simp; omega), if_neg hj, List.getElem?_drop]
    rw [List.getElem?_eq_getElem (by simp; omega)]
    congr 2
    simp; omega

def mixRow (l : List UInt8) (k pad : Nat) : Array Value := ((mixL l k).map fun b => Value.int .u8 b.toNat).toArray ++ Array.replicate pad (.int .u8 0)
theorem mixRow_get (l : List UInt8) (k pad j : Nat) (h : j < l.length) : (mixRow l k pad)[j]? = some (.int .u8 ((if j < k then small l[j] else l[j]).toNat : Int)) := by
  unfold mixRow
  rw [Array.getElem?_append_left (by simp [mixL_len, h])]
  simp [mixL_get l k j h]
theorem mixRow_set (l : List UInt8) (k pad : Nat) (h : k < l.length) : (mixRow l k pad).setIfInBounds k (.int .u8 ((small l[k]).toNat : Int)) = mixRow l (k + 1) pad := by
  apply Array.ext_getElem?
  intro i
  rw [Array.getElem?_setIfInBounds]
  have hsz : ∀ k', (mixRow l k' pad).size = l.length + pad := fun k' => by simp [mixRow, mixL_len]
  by_cases hik : k = i
  · subst hik
    rw [if_pos rfl, if_pos (by rw [hsz]; omega), mixRow_get _ _ _ _ h, if_pos (by omega)]
  · rw [if_neg hik]
    by_cases hi : i < l.length
    · rw [mixRow_get _ _ _ _ hi, mixRow_get _ _ _ _ hi]
      by_cases h2 : i < k
      · rw [if_pos h2, if_pos (by omega)]
      · rw [if_neg h2, if_neg (by omega)]
    · unfold mixRow
      rw [Array.getElem?_append_right (by simp [mixL_len]; omega), Array.getElem?_append_right (by simp [mixL_len]; omega)]
      simp [mixL_len]
theorem bytesRow_mix (s : ByteArray) (cap : Nat) : bytesRow s cap = mixRow s.data.toList 0 (cap - s.size) := by
  unfold bytesRow mixRow
  rw [mixL_zero]
  congr 1
  apply Array.ext'
  simp

theorem conv_low {w : World} {g pad cap : Nat} {r : Nat × Nat} (s : ByteArray) (h : MBlk w g 5 (mixRow s.data.toList s.size pad) r) :
    (convert 36 9 (.slice (some ⟨g, 0, none⟩) s.size cap)).run Try.prog w = .ok (.string ⟨(lowF s.data.toList).toArray⟩) w := by
  have := run_convert_bytes_back (P := Try.prog) w 36 9 5 ⟨g, 0, none⟩ cap (lowF s.data.toList) Try.underlying36 Try.underlying5 Try.underlying9 (fun j hj => by
    have e : (⟨g, 0, none⟩ : Addr).add j = ⟨g, j, none⟩ := by unfold Addr.add; by_cases h0 : j = 0 <;> simp [h0]
    have hj' : j < s.size := by simpa [lowF] using hj
    rw [e, h.cell j, mixRow_get _ _ _ _ (by rw [size_list]; exact hj'), if_pos hj']
    simp [lowF])
  have hl : (lowF s.data.toList).length = s.size := by simp [lowF]
  rwa [hl] at this

set_option maxHeartbeats 2000000 in
theorem refLow_any (s : ByteArray) (w : World) (hs : s.size ≤ 140737488351232) : Calls Try.prog 42 #[.string s] w fun e w' => e = .returned (.string ⟨(lowF s.data.toList).toArray⟩) ∧ Below w.heap.size w w' := by
  have hcv := fun w s => run_bytes_of_string (P := Try.prog) w 9 36 5 s Try.underlying9 Try.underlying36 Try.underlying5
  have hm0 := fun cap => Lib.hid (bytesRow_mix s cap)
  go_enter Try.func42, Try.ntmps42
  go_wp2
  generalize grownCap w s.size 0 5 = cap
  have hB0 : MBlk (w.alloc (.cells (bytesRow s cap) 5 ((bytesRow s cap).size, (bytesRow s cap).size + 1))).drew w.heap.size 5 (mixRow s.data.toList 0 (cap - s.size)) (s.size + (cap - s.size), s.size + (cap - s.size) + 1) := by
    have h := MBlk.new w 5 (bytesRow s cap) ((bytesRow s cap).size, (bytesRow s cap).size + 1)
    have hsz : (bytesRow s cap).size = s.size + (cap - s.size) := by simp [bytesRow]
    rw [hsz] at h ⊢
    rw [(hm0 cap).out] at h ⊢
    exact h
  have hbe0 : Below w.heap.size w (w.alloc (.cells (bytesRow s cap) 5 ((bytesRow s cap).size, (bytesRow s cap).size + 1))).drew := ((Below.refl _ w).alloc (Nat.le_refl _) _).drew
  generalize (w.alloc (.cells (bytesRow s cap) 5 ((bytesRow s cap).size, (bytesRow s cap).size + 1))).drew = w0 at hB0 hbe0 ⊢
  generalize cap - s.size = pad at hB0
  go_loopw [4] (fun i wr => ∃ k : Nat, k ≤ s.size ∧ i = .int .i64 k ∧ MBlk wr w.heap.size 5 (mixRow s.data.toList k pad) (s.size + pad, s.size + pad + 1) ∧ Below w.heap.size w wr) (fun i _ => s.size - (intOf i).toNat)
  case atStart => exact ⟨0, Nat.zero_le _, rfl, hB0, hbe0⟩
  case round =>
    obtain ⟨k, hk, rfl, hA, hb⟩ := hrel
    clear hB0 hbe0 hcv
    by_cases hlt : k < s.size
    · have a0 := hA.cell k
      have hk' : k < s.data.toList.length := by rw [size_list]; exact hlt
      rw [mixRow_get _ _ _ _ hk', if_neg (Nat.lt_irrefl k)] at a0
      have f0 := hA.frozen k (by simp; omega)
      have HS := Lib.hid (mixRow_set s.data.toList k pad hk')
      go_wp2_with fail
      refine (low_any _ _).mono ?_
      rintro e w1 ⟨rfl, rfl⟩
      go_wp2
      go_roundw
      case rel =>
        refine ⟨k + 1, by omega, by go_num, ?_, hb.setCell (by simp) _⟩
        rw [← HS.out]
        exact hA.set_ k _
      case measure => simp [intOf]; omega
    · have hks : k = s.size := by omega
      subst hks
      have c0 := conv_low (cap := cap) s hA
      go_wp2
      go_ret
      exact ⟨rfl, hb⟩
set_option maxHeartbeats 2000000 in
theorem lower_any (s : ByteArray) (w : World) (hs : s.size ≤ 140737488351232) : Calls Try.prog 38 #[.string s] w fun e w' => e = .returned (.string ⟨(lowF s.data.toList).toArray⟩) ∧ Below w.heap.size w w' := by
  have hcv := fun w s => run_bytes_of_string (P := Try.prog) w 9 36 5 s Try.underlying9 Try.underlying36 Try.underlying5
  have hm0 := fun cap => Lib.hid (bytesRow_mix s cap)
  go_enter Try.func38, Try.ntmps38
  go_wp2
  generalize grownCap w s.size 0 5 = cap
  have hB0 : MBlk (w.alloc (.cells (bytesRow s cap) 5 ((bytesRow s cap).size, (bytesRow s cap).size + 1))).drew w.heap.size 5 (mixRow s.data.toList 0 (cap - s.size)) (s.size + (cap - s.size), s.size + (cap - s.size) + 1) := by
    have h := MBlk.new w 5 (bytesRow s cap) ((bytesRow s cap).size, (bytesRow s cap).size + 1)
    have hsz : (bytesRow s cap).size = s.size + (cap - s.size) := by simp [bytesRow]
    rw [hsz] at h ⊢
    rw [(hm0 cap).out] at h ⊢
    exact h
  have hbe0 : Below w.heap.size w (w.alloc (.cells (bytesRow s cap) 5 ((bytesRow s cap).size, (bytesRow s cap).size + 1))).drew := ((Below.refl _ w).alloc (Nat.le_refl _) _).drew
  generalize (w.alloc (.cells (bytesRow s cap) 5 ((bytesRow s cap).size, (bytesRow s cap).size + 1))).drew = w0 at hB0 hbe0 ⊢
  generalize cap - s.size = pad at hB0
  go_loopw [10] (fun i wr => ∃ k : Nat, k ≤ s.size ∧ i = .int .i64 k ∧ MBlk wr w.heap.size 5 (mixRow s.data.toList k pad) (s.size + pad, s.size + pad + 1) ∧ Below w.heap.size w wr) (fun i _ => s.size - (intOf i).toNat)
  case atStart => exact ⟨0, Nat.zero_le _, rfl, hB0, hbe0⟩
  case round =>
    obtain ⟨k, hk, rfl, hA, hb⟩ := hrel
    clear hB0 hbe0 hcv
    by_cases hlt : k < s.size
    · have a0 := hA.cell k
      have hk' : k < s.data.toList.length := by rw [size_list]; exact hlt
      rw [mixRow_get _ _ _ _ hk', if_neg (Nat.lt_irrefl k)] at a0
      have f0 := hA.frozen k (by simp; omega)
      have HS := Lib.hid (mixRow_set s.data.toList k pad hk')
      go_wp2_with fail
      refine (small_any _ _).mono ?_
      rintro e w1 ⟨rfl, rfl⟩
      go_wp2
      go_roundw
      case rel =>
        refine ⟨k + 1, by omega, by go_num, ?_, hb.setCell (by simp) _⟩
        rw [← HS.out]
        exact hA.set_ k _
      case measure => simp [intOf]; omega
    · have hks : k = s.size := by omega
      subst hks
      have c0 := conv_low (cap := cap) s hA
      go_wp2
      go_ret
      exact ⟨rfl, hb⟩
end Go.Proofs.Ythdolhfaiofogaa.NormS
namespace Go.Proofs.Ythdolhfaiofogaa.NormS
open Go.RowKit HeadMath NormMath

def portB : List UInt8 := [58, 56, 48]
def hostF (s : List UInt8) : List UInt8 := Lib.trimSuffix (lowF s) portB
def HostPost (s : ByteArray) (w : World) (e : Ending) (w' : World) : Prop := e = .returned (.string ⟨(hostF s.data.toList).toArray⟩) ∧ Below w.heap.size w w'
theorem lowF_size (s : ByteArray) : (⟨(lowF s.data.toList).toArray⟩ : ByteArray).size = s.size := by
  show (lowF s.data.toList).toArray.size = s.size
  simp [lowF]
set_option maxHeartbeats 2000000 in
theorem host_any (s : ByteArray) (w : World) (hs : s.size ≤ 140737488351232) : Calls Try.prog 24 #[.string s] w (HostPost s w) := by
  have HV : Hid (∀ t : ByteArray, t = ⟨(lowF s.data.toList).toArray⟩ → (⟨(Lib.trimSuffix t.data.toList [58, 56, 48]).toArray⟩ : ByteArray) = ⟨(hostF s.data.toList).toArray⟩) := Lib.hid (fun t h => by subst h; rfl)
  have HZ := Lib.hid (lowF_size s)
  obtain ⟨t, ht⟩ : ∃ t : ByteArray, (⟨(lowF s.data.toList).toArray⟩ : ByteArray) = t := ⟨_, rfl⟩
  have HT := Lib.hid ht
  have cL := lower_any s
  simp only [ht] at cL
  have htz : t.size = s.size := by rw [← ht]; exact lowF_size s
  clear ht
  go_enter Try.func24, Try.ntmps24
  go_wp2_with fail
  refine (cL _ hs).mono ?_
  rintro e w1 ⟨rfl, hb⟩
  go_wp2_with fail
  refine (Try.strings_TrimSuffix t _ w1 (by omega)).mono ?_
  rintro e w2 ⟨rfl, rfl⟩
  go_wp2
  go_ret
  have e := HV.out t HT.out.symm
  refine ⟨?_, hb⟩
  show Ending.returned (Value.string _) = _
  rw [e]

theorem suffix_short {l : List UInt8} (h : l.length < 3) : Lib.trimSuffix l portB = l := by
  unfold Lib.trimSuffix Lib.hasSuffix
  rw [if_neg]
  intro h2
  have := (List.isSuffixOf_iff_suffix.1 h2).length_le
  simp [portB] at this
  omega
theorem extract_tail (t : ByteArray) (k : Nat) (_h : k ≤ t.size) : (t.extract k t.size).data.toList = t.data.toList.drop k := by
  apply List.ext_getElem
  · rw [size_list, extract_size _ _ _ _h (Nat.le_refl _), List.length_drop, size_list]
  · intro j h1 h2
    have hj : k + j < t.size := by rw [List.length_drop, size_list] at h2; omega
    have hs : j < (t.extract k t.size).size := by rw [extract_size _ _ _ _h (Nat.le_refl _)]; omega
    rw [list_at _ j hs, extract_at t k t.size j hj (Nat.le_refl _), List.getElem_drop]
    rfl
theorem extract_head (t : ByteArray) (k : Nat) (_h : k ≤ t.size) : (t.extract 0 k).data.toList = t.data.toList.take k := by
  apply List.ext_getElem
  · rw [size_list, extract_size _ _ _ (Nat.zero_le _) _h, List.length_take, size_list]; omega
  · intro j h1 h2
    have hj : j < k := by rw [List.length_take, size_list] at h2; omega
    have hs : j < (t.extract 0 k).size := by rw [extract_size _ _ _ (Nat.zero_le _) _h]; omega
    rw [list_at _ j hs, extract_at t 0 k j (by omega) _h, List.getElem_take]
    simp only [Nat.zero_add]
    rfl
theorem suffix_yes {t : ByteArray} (h3 : 3 ≤ t.size) (h : (t.extract (t.size - 3) t.size).data.toList = portB) : (⟨(Lib.trimSuffix t.data.toList portB).toArray⟩ : ByteArray) = t.extract 0 (t.size - 3) := by
  have e : (t.extract 0 (t.size - 3)).data.toList = Lib.trimSuffix t.data.toList portB := by
    unfold Lib.trimSuffix Lib.hasSuffix
    rw [extract_tail _ _ (by omega)] at h
    rw [if_pos (by rw [List.isSuffixOf_iff_suffix, List.suffix_iff_eq_drop, size_list]; exact h.symm), extract_head _ _ (by omega), size_list]
    rfl
  rw [← e]
theorem suffix_no {t : ByteArray} (h3 : 3 ≤ t.size) (h : (t.extract (t.size - 3) t.size).data.toList ≠ portB) : (⟨(Lib.trimSuffix t.data.toList portB).toArray⟩ : ByteArray) = t := by
  have e : Lib.trimSuffix t.data.toList portB = t.data.toList := by
    unfold Lib.trimSuffix Lib.hasSuffix
    rw [extract_tail _ _ (by omega)] at h
    rw [if_neg (by rw [List.isSuffixOf_iff_suffix, List.suffix_iff_eq_drop, size_list]; exact fun e => h e.symm)]
  rw [e]
set_option maxHeartbeats 2000000 in
theorem refHost_any (s : ByteArray) (w : World) (hs : s.size ≤ 140737488351232) : Calls Try.prog 29 #[.string s] w (HostPost s w) := by
  obtain ⟨t, ht⟩ : ∃ t : ByteArray, (⟨(lowF s.data.toList).toArray⟩ : ByteArray) = t := ⟨_, rfl⟩
  have cL := fun w => refLow_any s w hs
  simp only [ht] at cL
  have htz : t.size = s.size := by rw [← ht]; exact lowF_size s
  have htl : lowF s.data.toList = t.data.toList := by rw [← ht]
  have hts : t.size ≤ 140737488351232 := by omega
  clear htz
  by_cases h3 : 3 ≤ t.size
  · by_cases hc : (t.extract (t.size - 3) t.size).data.toList = portB
    · have HV : Hid ((⟨(hostF s.data.toList).toArray⟩ : ByteArray) = t.extract 0 (t.size - 3)) := Lib.hid (by unfold hostF; rw [htl, suffix_yes h3 hc])
      have q : ((t.extract (t.size - 3) t.size).toList == [58, 56, 48]) = true := by rw [Lib.toList_data, hc]; rfl
      clear hc htl ht hs
      go_enter Try.func29, Try.ntmps29
      go_wp2_with fail
      refine (cL _).mono ?_
      rintro e w1 ⟨rfl, hb⟩
      go_wp2
      go_ret
      refine ⟨?_, hb⟩
      rw [HV.out]
      rfl
    · have HV : Hid ((⟨(hostF s.data.toList).toArray⟩ : ByteArray) = t) := Lib.hid (by unfold hostF; rw [htl, suffix_no h3 hc])
      have q : ((t.extract (t.size - 3) t.size).toList == [58, 56, 48]) = false := by rw [Lib.toList_data]; simpa [portB] using hc
      clear hc htl ht hs
      go_enter Try.func29, Try.ntmps29
      go_wp2_with fail
      refine (cL _).mono ?_
      rintro e w1 ⟨rfl, hb⟩
      go_wp2
      go_ret
      refine ⟨?_, hb⟩
      rw [HV.out]
      rfl
  · have HV : Hid ((⟨(hostF s.data.toList).toArray⟩ : ByteArray) = t) := Lib.hid (by unfold hostF; rw [htl, suffix_short (by rw [size_list]; omega)])
    clear htl ht hs
    go_enter Try.func29, Try.ntmps29
    go_wp2_with fail
    refine (cL _).mono ?_
    rintro e w1 ⟨rfl, hb⟩
    go_wp2
    go_ret
    refine ⟨?_, hb⟩
    rw [HV.out]
    rfl
end Go.Proofs.Ythdolhfaiofogaa.NormS
