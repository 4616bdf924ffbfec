/-
  Single bytes: small letters, letters, digits, signs, blanks, in the program and in the reference.
  Single bytes: small letters, letters, digits, signs, blanks, in the program and in the reference.
  Tokens, values, texts that are the same, blanks left out: in the program.
  A line cut at its first colon, in the program.
  Small letters of a text, in the reference: a copy of its bytes, changed one by one.
  The same texts, blanks left out: in the reference.
  Lines read as fields, in the program.
  The values of a name, in the program.
  All values of a name, in the program.
-/
import Derived.Test.YthdolhfaiofogaaRows
import Derived.Test.YthdolhfaiofogaaShelf
import Derived.WalkKit
import Derived.WalkSpells
import Derived.WalkLawsBesides
import Derived.Lib.Hide
import Derived.Lib.IndexBytes
import Derived.Shelf.Strings.SlTrimAscii
import Derived.BigQuiet
import Derived.Deep.QuietTactic
import Derived.Deep.RegionWith
import Derived.Laws.IdiomStrings
import Derived.Laws.OwnMore
import Derived.Deep.Draws
import Derived.Laws.Rows
import Derived.Test.YthdolhfaiofogaaMg4
namespace Go.Proofs.Ythdolhfaiofogaa.NormS
open Go.RowKit HeadMath

theorem u8_beq (a b : UInt8) : ((a.toNat : Int) == (b.toNat : Int)) = (a == b) := by
  rw [Bool.eq_iff_iff, beq_iff_eq, beq_iff_eq]
  constructor
  · intro h; exact UInt8.toNat_inj.1 (by omega)
  · rintro rfl; rfl
theorem u8_beq_lit (a : UInt8) (n : Nat) (h : n < 256) : ((a.toNat : Int) == (n : Int)) = (a == UInt8.ofNat n) := by
  have := u8_beq a (UInt8.ofNat n)
  rw [show (UInt8.ofNat n).toNat = n from by simp; omega] at this
  exact this
theorem u8_lt (c : UInt8) : c.toNat < 256 := c.toNat_lt

theorem ret_int {k : IntKind} {a b : Int} (h : a = b) : Ending.returned (.int k a) = .returned (.int k b) := by rw [h]
set_option maxHeartbeats 400000 in
theorem small_any (c : UInt8) (w : World) : Calls Try.prog 46 #[.int .u8 c.toNat] w fun e w' => e = .returned (.int .u8 (small c).toNat) ∧ w = w' := by
  have hc := u8_lt c
  rcases (show c.toNat < 65 ∨ (65 ≤ c.toNat ∧ c.toNat ≤ 90) ∨ 90 < c.toNat from by omega) with h | h | h
  · have HS := Lib.hid (small_other (c := c) (by omega))
    have g1 : (c.toNat : Int) < 65 := by omega
    go_enter Try.func46, Try.ntmps46
    go_wp2
    go_ret
    exact ⟨ret_int (by rw [HS.out]), rfl⟩
  · have HS := Lib.hid (small_up h)
    have g1 : (65 : Int) ≤ c.toNat := by omega
    have g2 : (c.toNat : Int) ≤ 90 := by omega
    go_enter Try.func46, Try.ntmps46
    go_wp2
    go_ret
    exact ⟨ret_int (by rw [HS.out]; first | omega | (simp only [IntKind.wrap_u8']; omega)), rfl⟩
  · have HS := Lib.hid (small_other (c := c) (by omega))
    have g1 : (90 : Int) < c.toNat := by omega
    go_enter Try.func46, Try.ntmps46
    go_wp2
    go_ret
    exact ⟨ret_int (by rw [HS.out]), rfl⟩

set_option maxHeartbeats 400000 in
theorem low_any (c : UInt8) (w : World) : Calls Try.prog 51 #[.int .u8 c.toNat] w fun e w' => e = .returned (.int .u8 (small c).toNat) ∧ w = w' := by
  have hc := u8_lt c
  rcases (show c.toNat < 65 ∨ (65 ≤ c.toNat ∧ c.toNat ≤ 90) ∨ 90 < c.toNat from by omega) with h | h | h
  · have HS := Lib.hid (small_other (c := c) (by omega))
    have g1 : (c.toNat : Int) < 65 := by omega
    go_enter Try.func51, Try.ntmps51
    go_wp2
    go_ret
    exact ⟨ret_int (by rw [HS.out]), rfl⟩
  · have HS := Lib.hid (small_up h)
    have g1 : (65 : Int) ≤ c.toNat := by omega
    have g2 : (c.toNat : Int) ≤ 90 := by omega
    go_enter Try.func51, Try.ntmps51
    go_wp2
    go_ret
    exact ⟨ret_int (by rw [HS.out]; first | omega | (simp only [IntKind.wrap_u8']; omega)), rfl⟩
  · have HS := Lib.hid (small_other (c := c) (by omega))
    have g1 : (90 : Int) < c.toNat := by omega
    go_enter Try.func51, Try.ntmps51
    go_wp2
    go_ret
    exact ⟨ret_int (by rw [HS.out]), rfl⟩

end Go.Proofs.Ythdolhfaiofogaa.NormS
namespace Go.Proofs.Ythdolhfaiofogaa.HeadS
open Go.RowKit HeadMath

theorem u8_beq (a b : UInt8) : ((a.toNat : Int) == (b.toNat : Int)) = (a == b) := by
  rw [Bool.eq_iff_iff, beq_iff_eq, beq_iff_eq]
  constructor
  · intro h; exact UInt8.toNat_inj.1 (by omega)
  · rintro rfl; rfl
theorem u8_lt (c : UInt8) : c.toNat < 256 := c.toNat_lt

theorem ret_int {k : IntKind} {a b : Int} (h : a = b) : Ending.returned (.int k a) = .returned (.int k b) := by rw [h]
theorem ret_bool {a b : Bool} (h : a = b) : Ending.returned (.bool a) = .returned (.bool b) := by rw [h]

set_option maxHeartbeats 400000 in
theorem small_any (c : UInt8) (w : World) : Calls Try.prog 46 #[.int .u8 c.toNat] w fun e w' => e = .returned (.int .u8 (small c).toNat) ∧ w = w' := by
  have hc := u8_lt c
  rcases (show c.toNat < 65 ∨ (65 ≤ c.toNat ∧ c.toNat ≤ 90) ∨ 90 < c.toNat from by omega) with h | h | h
  · have HS := Lib.hid (small_other (c := c) (by omega))
    have g1 : (c.toNat : Int) < 65 := by omega
    go_enter Try.func46, Try.ntmps46
    go_wp2
    go_ret
    exact ⟨ret_int (by rw [HS.out]), rfl⟩
  · have HS := Lib.hid (small_up h)
    have g1 : (65 : Int) ≤ c.toNat := by omega
    have g2 : (c.toNat : Int) ≤ 90 := by omega
    go_enter Try.func46, Try.ntmps46
    go_wp2
    go_ret
    exact ⟨ret_int (by rw [HS.out]; first | omega | (simp only [IntKind.wrap_u8']; omega)), rfl⟩
  · have HS := Lib.hid (small_other (c := c) (by omega))
    have g1 : (90 : Int) < c.toNat := by omega
    go_enter Try.func46, Try.ntmps46
    go_wp2
    go_ret
    exact ⟨ret_int (by rw [HS.out]), rfl⟩

set_option maxHeartbeats 400000 in
theorem low_any (c : UInt8) (w : World) : Calls Try.prog 51 #[.int .u8 c.toNat] w fun e w' => e = .returned (.int .u8 (small c).toNat) ∧ w = w' := by
  have hc := u8_lt c
  rcases (show c.toNat < 65 ∨ (65 ≤ c.toNat ∧ c.toNat ≤ 90) ∨ 90 < c.toNat from by omega) with h | h | h
  · have HS := Lib.hid (small_other (c := c) (by omega))
    have g1 : (c.toNat : Int) < 65 := by omega
    go_enter Try.func51, Try.ntmps51
    go_wp2
    go_ret
    exact ⟨ret_int (by rw [HS.out]), rfl⟩
  · have HS := Lib.hid (small_up h)
    have g1 : (65 : Int) ≤ c.toNat := by omega
    have g2 : (c.toNat : Int) ≤ 90 := by omega
    go_enter Try.func51, Try.ntmps51
    go_wp2
    go_ret
    exact ⟨ret_int (by rw [HS.out]; first | omega | (simp only [IntKind.wrap_u8']; omega)), rfl⟩
  · have HS := Lib.hid (small_other (c := c) (by omega))
    have g1 : (90 : Int) < c.toNat := by omega
    go_enter Try.func51, Try.ntmps51
    go_wp2
    go_ret
    exact ⟨ret_int (by rw [HS.out]), rfl⟩

end Go.Proofs.Ythdolhfaiofogaa.HeadS
namespace Go.Proofs.Ythdolhfaiofogaa.HeadS
open Go.RowKit HeadMath

theorem size_list (s : ByteArray) : s.data.toList.length = s.size := by simp
theorem small_quiet (c : UInt8) (w : World) : Calls Try.prog 46 #[.int .u8 c.toNat] w fun e w' => e = .returned (.int .u8 (small c).toNat) ∧ w' = w := (small_any c w).mono fun _ _ ⟨he, hw⟩ => ⟨he, hw.symm⟩
def DrewPost (w : World) (v : Value) (e : Ending) (w' : World) : Prop := ∃ m : Nat, e = .returned v ∧ w' = w.drewN m
theorem below_drewN {B : Nat} {a w : World} (h : Below B a w) (n : Nat) : Below B a (w.drewN n) := ⟨h.os, h.tape, h.output, h.size, h.block⟩
theorem sameF_at {a b : ByteArray} (_hl : a.size = b.size) (k : Nat) (h : k < a.size) (h' : k < b.size) (hne : small a[k] ≠ small b[k]) : sameF a.data.toList b.data.toList = false := by
  unfold sameF lowF
  rw [beq_eq_false_iff_ne]
  intro e
  have h1 : (a.data.toList.map small)[k]? = some (small a[k]) := by
    rw [List.getElem?_map, List.getElem?_eq_getElem (by rw [size_list]; exact h)]; rfl
  have h2 : (b.data.toList.map small)[k]? = some (small b[k]) := by
    rw [List.getElem?_map, List.getElem?_eq_getElem (by rw [size_list]; exact h')]; rfl
  rw [e, h2] at h1
  exact hne (Option.some.inj h1).symm
theorem sameF_all {a b : ByteArray} (hl : a.size = b.size) (h : ∀ k (h1 : k < a.size) (h2 : k < b.size), small a[k] = small b[k]) : sameF a.data.toList b.data.toList = true := by
  unfold sameF lowF
  rw [beq_iff_eq]
  apply List.ext_getElem
  · simp [hl]
  · intro i h1 h2
    rw [List.getElem_map, List.getElem_map]
    exact h i (by simpa using h1) (by simpa using h2)

set_option maxHeartbeats 2000000 in
theorem same_any (a b : ByteArray) (w : World) (ha : a.size ≤ 140737488351232) (_hb : b.size ≤ 140737488351232) : Calls Try.prog 36 #[.string a, .string b] w (DrewPost w (.bool (sameF a.data.toList b.data.toList))) := by
  by_cases hl : a.size = b.size
  · have q : (((a.size : Nat) : Int) != (b.size : Int)) = false := by simp [hl]
    have HL := Lib.hid hl
    have hle1 : a.size ≤ b.size := by omega
    have hle2 : b.size ≤ a.size := by omega
    clear hl
    go_enter Try.func36, Try.ntmps36
    go_wp2
    go_loopw [13] (fun i wr => ∃ k : Nat, k ≤ a.size ∧ i = .int .i64 k ∧ (∀ j (h1 : j < a.size) (h2 : j < b.size), j < k → small a[j] = small b[j]) ∧ ∃ m, wr = w.drewN m) (fun i _ => a.size - (intOf i).toNat)
    case atStart => exact ⟨0, Nat.zero_le _, rfl, fun j _ _ h => by omega, 0, rfl⟩
    case round =>
      obtain ⟨k, hk, rfl, hall, m, hm⟩ := hrel
      have HA := Lib.hid hall
      have HM := Lib.hid hm
      clear hall hm
      by_cases hlt : k < a.size
      · have hlt2 : k < b.size := by omega
        by_cases hxy : small a[k] = small b[k]
        · have q2 : (((small a[k]).toNat : Int) != ((small b[k]).toNat : Int)) = false := by rw [hxy]; simp
          have HXY := Lib.hid hxy
          clear hxy
          go_wp2
          go_quiet ((go_at_call 46; exact Calls.quiet_of_same (small_quiet _ _)))
          go_wp2
          go_roundw
          case rel =>
            refine ⟨k + 1, by omega, by go_num, fun j h1 h2 hj => ?_, ?_⟩
            · by_cases hjk : j = k
              · subst hjk; exact HXY.out
              · exact HA.out j h1 h2 (by omega)
            · obtain ⟨m', hm'⟩ : ∃ m', wr = w.drewN m' := ⟨m, HM.out⟩
              exact ⟨_, by rw [hm', World.drewN_drewN]⟩
          case measure => simp [intOf]; omega
        · have q2 : (((small a[k]).toNat : Int) != ((small b[k]).toNat : Int)) = true := by
            unfold bne; rw [u8_beq]; simpa using hxy
          have HF := Lib.hid (sameF_at HL.out k hlt hlt2 hxy)
          clear hxy
          go_wp2
          go_quiet ((go_at_call 46; exact Calls.quiet_of_same (small_quiet _ _)))
          go_wp2
          go_ret
          exact ⟨_, ret_bool (by rw [HF.out]), by rw [HM.out, World.drewN_drewN]⟩
      · have HF := Lib.hid (sameF_all HL.out (fun j h1 h2 => HA.out j h1 h2 (by omega)))
        go_wp2
        go_ret
        exact ⟨m, ret_bool (by rw [HF.out]), HM.out⟩
  · have q : (((a.size : Nat) : Int) != (b.size : Int)) = true := by simp; omega
    have HF := Lib.hid (sameF_len (a := a.data.toList) (b := b.data.toList) (by rw [size_list, size_list]; exact hl))
    clear hl
    go_enter Try.func36, Try.ntmps36
    go_wp2
    go_ret
    exact ⟨0, ret_bool (by rw [HF.out]), rfl⟩
end Go.Proofs.Ythdolhfaiofogaa.HeadS
namespace Go.Proofs.Ythdolhfaiofogaa.HeadS
open Go.RowKit HeadMath

def colonAt (s : ByteArray) : Int := Lib.indexByte s.data.toList 58
end Go.Proofs.Ythdolhfaiofogaa.HeadS
namespace Go.Proofs.Ythdolhfaiofogaa.HeadS
open Go.RowKit HeadMath

def MBlk (w : World) (g : Nat) (t : TypeId) (cs : Array Value) (r : Nat × Nat) : Prop := w.heap[g]? = some (.cells cs t r)
section
variable {w w' : World} {g : Nat} {t : TypeId} {cs : Array Value} {r : Nat × Nat}
theorem MBlk.lt (h : MBlk w g t cs r) : g < w.heap.size := by
  rcases Nat.lt_or_ge g w.heap.size with hlt | hge
  · exact hlt
  · unfold MBlk at h; rw [Array.getElem?_eq_none hge] at h; cases h
theorem MBlk.cell (h : MBlk w g t cs r) (i : Nat) : w.cell? ⟨g, i, none⟩ = cs[i]? := cell_of_row w g i cs t r h
theorem MBlk.frozen (h : MBlk w g t cs r) (i : Nat) (hi : i < r.1) : w.frozen? ⟨g, i, none⟩ = false := by
  unfold MBlk at h
  simp [World.frozen?, h]
  omega
theorem MBlk.new (w : World) (t : TypeId) (cs : Array Value) (r : Nat × Nat) : MBlk (w.alloc (.cells cs t r)) w.heap.size t cs r := heap_alloc_new w _
theorem MBlk.set_ (h : MBlk w g t cs r) (i : Nat) (u : Value) : MBlk (w.setCell ⟨g, i, none⟩ u) g t (cs.setIfInBounds i u) r := by
  unfold MBlk at h ⊢
  simp [World.setCell, Array.getElem?_modify, h]
end

/-- The text with small letters up to k. -/
def mixL (l : List UInt8) (k : Nat) : List UInt8 := (l.take k).map small ++ l.drop k
theorem mixL_len (l : List UInt8) (k : Nat) : (mixL l k).length = l.length := by
  simp [mixL]; omega
theorem mixL_zero (l : List UInt8) : mixL l 0 = l := by simp [mixL]
theorem mixL_get (l : List UInt8) (k j : Nat) (h : j < l.length) : (mixL l k)[j]? = some (if j < k then small l[j] else l[j]) := by
  unfold mixL
  by_cases hj : j < k
  · rw [List.getElem?_append_left (by simp; omega), if_pos hj]
    simp [hj, h]
  · rw [List.getElem?_append_right (by simp; omega), if_neg hj, List.getElem?_drop]
    rw [List.getElem?_eq_getElem (by simp; omega)]
    congr 2
    simp; omega

def mixRow (l : List UInt8) (k pad : Nat) : Array Value := ((mixL l k).map fun b => Value.int .u8 b.toNat).toArray ++ Array.replicate pad (.int .u8 0)
theorem mixRow_get (l : List UInt8) (k pad j : Nat) (h : j < l.length) : (mixRow l k pad)[j]? = some (.int .u8 ((if j < k then small l[j] else l[j]).toNat : Int)) := by
  unfold mixRow
  rw [Array.getElem?_append_left (by simp [mixL_len, h])]
  simp [mixL_get l k j h]
theorem mixRow_set (l : List UInt8) (k pad : Nat) (h : k < l.length) : (mixRow l k pad).setIfInBounds k (.int .u8 ((small l[k]).toNat : Int)) = mixRow l (k + 1) pad := by
  apply Array.ext_getElem?
  intro i
  rw [Array.getElem?_setIfInBounds]
  have hsz : ∀ k', (mixRow l k' pad).size = l.length + pad := fun k' => by simp [mixRow, mixL_len]
  by_cases hik : k = i
  · subst hik
    rw [if_pos rfl, if_pos (by rw [hsz]; omega), mixRow_get _ _ _ _ h, if_pos (by omega)]
  · rw [if_neg hik]
    by_cases hi : i < l.length
    · rw [mixRow_get _ _ _ _ hi, mixRow_get _ _ _ _ hi]
      by_cases h2 : i < k
      · rw [if_pos h2, if_pos (by omega)]
      · rw [if_neg h2, if_neg (by omega)]
    · unfold mixRow
      rw [Array.getElem?_append_right (by simp [mixL_len]; omega), Array.getElem?_append_right (by simp [mixL_len]; omega)]
      simp [mixL_len]
theorem bytesRow_mix (s : ByteArray) (cap : Nat) : bytesRow s cap = mixRow s.data.toList 0 (cap - s.size) := by
  unfold bytesRow mixRow
  rw [mixL_zero]
  congr 1
  apply Array.ext'
  simp

theorem conv_low {w : World} {g pad cap : Nat} {r : Nat × Nat} (s : ByteArray) (h : MBlk w g 5 (mixRow s.data.toList s.size pad) r) :
    (convert 36 9 (.slice (some ⟨g, 0, none⟩) s.size cap)).run Try.prog w = .ok (.string ⟨(lowF s.data.toList).toArray⟩) w := by
  have := run_convert_bytes_back (P := Try.prog) w 36 9 5 ⟨g, 0, none⟩ cap (lowF s.data.toList) Try.underlying36 Try.underlying5 Try.underlying9 (fun j hj => by
    have e : (⟨g, 0, none⟩ : Addr).add j = ⟨g, j, none⟩ := by unfold Addr.add; by_cases h0 : j = 0 <;> simp [h0]
    have hj' : j < s.size := by simpa [lowF] using hj
    rw [e, h.cell j, mixRow_get _ _ _ _ (by rw [size_list]; exact hj'), if_pos hj']
    simp [lowF])
  have hl : (lowF s.data.toList).length = s.size := by simp [lowF]
  rwa [hl] at this

set_option maxHeartbeats 2000000 in
theorem refLow_any (s : ByteArray) (w : World) (hs : s.size ≤ 140737488351232) : Calls Try.prog 42 #[.string s] w fun e w' => e = .returned (.string ⟨(lowF s.data.toList).toArray⟩) ∧ Below w.heap.size w w' := by
  have hcv := fun w s => run_bytes_of_string (P := Try.prog) w 9 36 5 s Try.underlying9 Try.underlying36 Try.underlying5
  have hm0 := fun cap => Lib.hid (bytesRow_mix s cap)
  go_enter Try.func42, Try.ntmps42
  go_wp2
  generalize grownCap w s.size 0 5 = cap
  have hB0 : MBlk (w.alloc (.cells (bytesRow s cap) 5 ((bytesRow s cap).size, (bytesRow s cap).size + 1))).drew w.heap.size 5 (mixRow s.data.toList 0 (cap - s.size)) (s.size + (cap - s.size), s.size + (cap - s.size) + 1) := by
    have h := MBlk.new w 5 (bytesRow s cap) ((bytesRow s cap).size, (bytesRow s cap).size + 1)
    have hsz : (bytesRow s cap).size = s.size + (cap - s.size) := by simp [bytesRow]
    rw [hsz] at h ⊢
    rw [(hm0 cap).out] at h ⊢
    exact h
  have hbe0 : Below w.heap.size w (w.alloc (.cells (bytesRow s cap) 5 ((bytesRow s cap).size, (bytesRow s cap).size + 1))).drew := ((Below.refl _ w).alloc (Nat.le_refl _) _).drew
  generalize (w.alloc (.cells (bytesRow s cap) 5 ((bytesRow s cap).size, (bytesRow s cap).size + 1))).drew = w0 at hB0 hbe0 ⊢
  generalize cap - s.size = pad at hB0
  go_loopw [4] (fun i wr => ∃ k : Nat, k ≤ s.size ∧ i = .int .i64 k ∧ MBlk wr w.heap.size 5 (mixRow s.data.toList k pad) (s.size + pad, s.size + pad + 1) ∧ Below w.heap.size w wr) (fun i _ => s.size - (intOf i).toNat)
  case atStart => exact ⟨0, Nat.zero_le _, rfl, hB0, hbe0⟩
  case round =>
    obtain ⟨k, hk, rfl, hA, hb⟩ := hrel
    clear hB0 hbe0 hcv
    by_cases hlt : k < s.size
    · have a0 := hA.cell k
      have hk' : k < s.data.toList.length := by rw [size_list]; exact hlt
      rw [mixRow_get _ _ _ _ hk', if_neg (Nat.lt_irrefl k)] at a0
      have f0 := hA.frozen k (by simp; omega)
      have HS := Lib.hid (mixRow_set s.data.toList k pad hk')
      go_wp2_with fail
      refine (low_any _ _).mono ?_
      rintro e w1 ⟨rfl, rfl⟩
      go_wp2
      go_roundw
      case rel =>
        refine ⟨k + 1, by omega, by go_num, ?_, hb.setCell (by simp) _⟩
        rw [← HS.out]
        exact hA.set_ k _
      case measure => simp [intOf]; omega
    · have hks : k = s.size := by omega
      subst hks
      have c0 := conv_low (cap := cap) s hA
      go_wp2
      go_ret
      exact ⟨rfl, hb⟩
end Go.Proofs.Ythdolhfaiofogaa.HeadS
namespace Go.Proofs.Ythdolhfaiofogaa.HeadS
open Go.RowKit HeadMath

set_option maxHeartbeats 2000000 in
theorem refSame_any (a b : ByteArray) (w : World) (ha : a.size ≤ 140737488351232) (hb : b.size ≤ 140737488351232) : Calls Try.prog 50 #[.string a, .string b] w fun e w' => e = .returned (.bool (sameF a.data.toList b.data.toList)) ∧ Below w.heap.size w w' := by
  by_cases hl : a.size = b.size
  · have HL := Lib.hid hl
    have q : (((a.size : Nat) : Int) == (b.size : Int)) = true := by simp [hl]
    clear hl
    go_enter Try.func50, Try.ntmps50
    go_wp2_with fail
    refine (refLow_any _ _ ha).mono ?_
    rintro e w1 ⟨rfl, hb1⟩
    go_wp2_with fail
    refine (refLow_any _ _ hb).mono ?_
    rintro e w2 ⟨rfl, hb2⟩
    replace hb2 := hb1.trans (hb2.mono hb1.size)
    go_wp2
    go_ret
    exact ⟨ret_bool (by unfold sameF; rfl), hb2⟩
  · have q : (((a.size : Nat) : Int) == (b.size : Int)) = false := by simp; omega
    have HF := Lib.hid (sameF_len (a := a.data.toList) (b := b.data.toList) (by rw [size_list, size_list]; exact hl))
    clear hl
    go_enter Try.func50, Try.ntmps50
    go_wp2
    go_ret
    exact ⟨ret_bool (by rw [HF.out]), Below.refl _ _⟩

end Go.Proofs.Ythdolhfaiofogaa.HeadS
namespace Go.Proofs.Ythdolhfaiofogaa.HeadS
open Go.RowKit HeadMath

/-- A row of texts in memory. -/
def StrsIn (B : Nat) (w : World) (a : Option Addr) (ls : List ByteArray) : Prop :=
  ∀ j (h : j < ls.length), ∃ b off, a = some ⟨b, off, none⟩ ∧ b < B ∧ w.cell? ⟨b, off + j, none⟩ = some (.string ls[j])
def fieldAt (s : ByteArray) (i : Nat) : ByteArray × ByteArray := (s.extract 0 i, ⟨(trimF (s.extract (i + 1) s.size).data.toList).toArray⟩)
def fieldOf (s : ByteArray) : Option (ByteArray × ByteArray) :=
  if colonAt s < 0 then none
  else if tokenF (fieldAt s (colonAt s).toNat).1.data.toList = true ∧ valueF (fieldAt s (colonAt s).toNat).2.data.toList = true then some (fieldAt s (colonAt s).toNat) else none
def parseF : List ByteArray → Option (List (ByteArray × ByteArray))
  | [] => some []
  | s :: l => match fieldOf s with
    | none => none
    | some f => match parseF l with
      | none => none
      | some fs => some (f :: fs)
def fieldCells (l : List (ByteArray × ByteArray)) : List Value := l.flatMap fun x => [.string x.1, .string x.2]
def ParsePost (w : World) (ls : List ByteArray) (e : Ending) (w' : World) : Prop :=
  Below w.heap.size w w' ∧
  ((100 < ls.length ∧ e = .returned (.tuple #[.slice none 0 0, .int .i64 91])) ∨
   (ls.length ≤ 100 ∧ parseF ls = none ∧ e = .returned (.tuple #[.slice none 0 0, .int .i64 90])) ∨
   (ls.length ≤ 100 ∧ ∃ fs v, parseF ls = some fs ∧ e = .returned (.tuple #[v, .int .i64 0]) ∧ w'.ownsRow w.heap.size 71 2 v fs.length (fieldCells fs)))

theorem ownsRow_below {w w' : World} {base : Nat} {e : TypeId} {size : Nat} {v : Value} {n : Nat} {xs : List Value} (h : w.ownsRow base e size v n xs) (hb : Below w.heap.size w w') : w'.ownsRow base e size v n xs := by
  refine ⟨h.1, ?_⟩
  rcases h.2 with h0 | ⟨g, cap, cur, hv, hg, hc, rest⟩
  · exact .inl h0
  · refine .inr ⟨g, cap, cur, hv, hg, ?_, rest⟩
    have hlt : g < w.heap.size := by
      rcases Nat.lt_or_ge g w.heap.size with h1 | h1
      · exact h1
      · rw [Array.getElem?_eq_none h1] at hc; cases hc
    rw [hb.block g hlt]; exact hc
end Go.Proofs.Ythdolhfaiofogaa.HeadS
namespace Go.Proofs.Ythdolhfaiofogaa.HeadS
open Go.RowKit HeadMath

/-- A row of fields in memory. -/
def FieldsIn (B : Nat) (w : World) (a : Option Addr) (l : List (ByteArray × ByteArray)) : Prop :=
  ∀ j (h : j < l.length), ∃ b off, a = some ⟨b, off, none⟩ ∧ b < B ∧ w.cell? ⟨b, off + j * 2, none⟩ = some (.string l[j].1) ∧ w.cell? ⟨b, off + j * 2 + 1, none⟩ = some (.string l[j].2)
def SmallF (l : List (ByteArray × ByteArray)) : Prop := ∀ j (h : j < l.length), l[j].1.size ≤ 140737488351232 ∧ l[j].2.size ≤ 140737488351232

def isNamed (n : ByteArray) (f : ByteArray × ByteArray) : Bool := sameF f.1.data.toList n.data.toList
def getF (n : ByteArray) (l : List (ByteArray × ByteArray)) : Option ByteArray := (l.find? (isNamed n)).map (·.2)
theorem getF_none {n : ByteArray} {l : List (ByteArray × ByteArray)} (h : ∀ j (h : j < l.length), isNamed n l[j] = false) : getF n l = none := by
  unfold getF
  rw [List.find?_eq_none.2]
  · rfl
  · intro x hx
    obtain ⟨j, hj, rfl⟩ := List.getElem_of_mem hx
    rw [h j hj]; simp
theorem getF_some {n : ByteArray} {l : List (ByteArray × ByteArray)} {k : Nat} (hk : k < l.length) (h : ∀ j (hj : j < l.length), j < k → isNamed n l[j] = false) (ht : isNamed n l[k] = true) : getF n l = some l[k].2 := by
  unfold getF
  have : l.find? (isNamed n) = some l[k] := by
    rw [List.find?_eq_some_iff_getElem]
    exact ⟨ht, k, hk, rfl, fun j hj => by simp [h j (by omega) hj]⟩
  rw [this]; rfl

def GetPost (n : ByteArray) (l : List (ByteArray × ByteArray)) (w : World) (e : Ending) (w' : World) : Prop :=
  Below w.heap.size w w' ∧ ((getF n l = none ∧ e = .returned (.tuple #[.string { data := #[] }, .bool false])) ∨ ∃ v, getF n l = some v ∧ e = .returned (.tuple #[.string v, .bool true]))

set_option maxHeartbeats 4000000 in
theorem get_any (l : List (ByteArray × ByteArray)) (n : ByteArray) (a : Option Addr) (cap : Nat) (w : World) (hin : FieldsIn w.heap.size w a l) (hsm : SmallF l) (hle : l.length ≤ 140737488351232) (hn : n.size ≤ 140737488351232) :
    Calls Try.prog 23 #[.slice a l.length cap, .string n] w (GetPost n l w) := by
  have HIN := Lib.hid hin
  clear hin
  go_enter Try.func23, Try.ntmps23
  go_wp2
  go_loopw [10] (fun i wr => ∃ k : Nat, k ≤ l.length ∧ i = .int .i64 k ∧ Hid (∀ j (h : j < l.length), j < k → isNamed n l[j] = false) ∧ Below w.heap.size w wr) (fun i _ => l.length - (intOf i).toNat)
  case atStart => exact ⟨0, Nat.zero_le _, rfl, Lib.hid (fun j _ h => absurd h (Nat.not_lt_zero _)), Below.refl _ _⟩
  case round =>
    obtain ⟨k, hk, rfl, HA, hb⟩ := hrel
    by_cases hlt : k < l.length
    · obtain ⟨b, off, rfl, hbl, hc1, hc2⟩ := HIN.out k hlt
      have hs1 := hsm k hlt
      have x0 := (hb.cell (p := ⟨b, off + k * 2, none⟩) hbl).trans hc1
      have x1 := (hb.cell (p := ⟨b, off + k * 2 + 1, none⟩) hbl).trans hc2
      clear hc1 hc2
      obtain ⟨nm, vl, hf⟩ : ∃ nm vl, l[k] = (nm, vl) := ⟨_, _, rfl⟩
      have HF := Lib.hid hf
      simp only [hf] at x0 x1 hs1
      clear hf
      have hb' := hb.alloc (o := .cells #[.string nm, .string vl] 71) hb.size
      cases ht : sameF nm.data.toList n.data.toList with
      | true =>
        have HG := Lib.hid (getF_some hlt (fun j hj h => HA.out j hj h) (by rw [HF.out]; exact ht))
        have HT := Lib.hid ht
        clear ht
        go_wp2_with fail
        refine (same_any _ _ _ hs1.1 hn).mono ?_
        rintro e w1 ⟨m, rfl, rfl⟩
        rw [HT.out]
        go_wp2
        go_ret2
        exact ⟨below_drewN hb' m, .inr ⟨vl, by rw [HG.out, HF.out], rfl⟩⟩
      | false =>
        have HN := Lib.hid (show ∀ j (h : j < l.length), j < k + 1 → isNamed n l[j] = false from fun j hj h => by
          by_cases hjk : j = k
          · subst hjk; rw [HF.out]; exact ht
          · exact HA.out j hj (by omega))
        have HT := Lib.hid ht
        clear ht
        go_wp2_with fail
        refine (same_any _ _ _ hs1.1 hn).mono ?_
        rintro e w1 ⟨m, rfl, rfl⟩
        rw [HT.out]
        go_wp2
        go_roundw
        case rel => exact ⟨k + 1, by omega, by go_num, HN, below_drewN hb' m⟩
        case measure => simp [intOf]; omega
    · have HG := Lib.hid (getF_none (n := n) (l := l) (fun j hj => HA.out j hj (by omega)))
      go_wp2
      go_ret2
      exact ⟨hb, .inl ⟨HG.out, rfl⟩⟩
end Go.Proofs.Ythdolhfaiofogaa.HeadS
namespace Go.Proofs.Ythdolhfaiofogaa.HeadS
open Go.RowKit HeadMath

def allF (n : ByteArray) (l : List (ByteArray × ByteArray)) : List ByteArray := (l.filter (isNamed n)).map (·.2)
theorem allF_yes {n : ByteArray} {l : List (ByteArray × ByteArray)} {k : Nat} (h : k < l.length) (ht : isNamed n l[k] = true) : allF n (l.take (k + 1)) = allF n (l.take k) ++ [l[k].2] := by
  unfold allF
  rw [List.take_succ_eq_append_getElem h, List.filter_append, List.map_append]
  simp [ht]
theorem allF_no {n : ByteArray} {l : List (ByteArray × ByteArray)} {k : Nat} (h : k < l.length) (ht : isNamed n l[k] = false) : allF n (l.take (k + 1)) = allF n (l.take k) := by
  unfold allF
  rw [List.take_succ_eq_append_getElem h, List.filter_append, List.map_append]
  simp [ht]
def strCells (l : List ByteArray) : List Value := l.map fun s => .string s
theorem strInfo : (Try.prog.info? 9).map (fun i => (i.zero, i.size, i.bytes)) = some (some (.string ⟨#[]⟩), 1, 16) := by kernel_rfl
def RowPost (w : World) (r : List ByteArray) (e : Ending) (w' : World) : Prop :=
  ∃ v, e = .returned v ∧ w'.ownsRow w.heap.size 9 1 v r.length (strCells r) ∧ Below w.heap.size w w'

end Go.Proofs.Ythdolhfaiofogaa.HeadS
