/-
  ctrl.unquoted: a value without its quotes.
  Small letters of a text, in the program and in the reference.
  ctrl.say: one part is taken.
  ctrl.say, for each kind of part.
-/
import Derived.Deep.RegionWith
import Derived.Deep.AppendLies
import Derived.Laws.OwnMore
import Derived.Deep.Draws
import Derived.Laws.Rows
import Derived.Test.YtaimhfnddolilaaGreatDoorMg3
import Derived.Test.YtaimhfnddolilaaGreatDoorMg4
import Derived.Test.YtaimhfnddolilaaGreatDoorMg6
import Derived.Test.YtaimhfnddolilaaGreatDoorMg7
namespace Go.Proofs.YtaimhfnddolilaaGreatDoor.CtrlS
open Go.RowKit HeadMath HeadS

theorem built_emptyC {w : World} : Lib.IsBuilder 125 5 w.heap.size w.heap.size [] (w.alloc (.cells #[.pointer none, .slice none 0 0] 125)) := Lib.fresh_isBuilder _ _ w
theorem drop_next {s : ByteArray} {k : Nat} (h : k < s.size) : s.data.toList.drop k = s[k] :: s.data.toList.drop (k + 1) := by
  rw [List.drop_eq_getElem_cons (by rw [size_list]; exact h)]
  rfl
theorem drop_end {s : ByteArray} {k : Nat} (h : ¬ k < s.size) : s.data.toList.drop k = [] := List.drop_of_length_le (by rw [size_list]; omega)
theorem byte_ne {c d : UInt8} (h : c ≠ d) : ((c.toNat : Int) == (d.toNat : Int)) = false := by
  rw [beq_eq_false_iff_ne]
  intro e
  exact h (UInt8.toNat_inj.1 (by omega))
theorem walkP_other {c : UInt8} {r acc : List UInt8} (h34 : c ≠ 34) (h : c ≠ 92 ∨ r = []) : walkP (c :: r) acc = walkP r (acc ++ [c]) := by
  cases r with
  | nil => show walkP [c] acc = none; simp [walkP, h34]
  | cons d r =>
    have h92 : c ≠ 92 := by rcases h with h | h; exact h; cases h
    rw [walkP, if_neg h34, if_neg h92]
theorem walkP_skip {d : UInt8} {r acc : List UInt8} : walkP (92 :: d :: r) acc = walkP r (acc ++ [d]) := by
  rw [walkP, if_neg (by decide), if_pos rfl]
theorem walkP_inner {d : UInt8} {r acc : List UInt8} : walkP (34 :: d :: r) acc = none := by rw [walkP, if_pos rfl]
/-- The scan behind the first quote, at place k. -/
def UnqAt (s : ByteArray) (k : Nat) (acc : List UInt8) : Prop := walkP (s.data.toList.drop 1) [] = walkP (s.data.toList.drop k) acc ∧ acc.length ≤ k
theorem unq_plain {s : ByteArray} (h : s.size < 2) : unqF s.data.toList = s.data.toList := by
  have hl : s.data.toList.length < 2 := by rw [size_list]; exact h
  match s.data.toList, hl with
  | [], _ => rfl
  | [c], _ =>
    unfold unqF
    split
    · rename_i r e
      injection e with e1 e2
      subst e2
      subst e1
      rfl
    · rfl
theorem unq_other {s : ByteArray} (h0 : 0 < s.size) (h : s[0] ≠ 34) : unqF s.data.toList = s.data.toList := by
  have e := drop_next h0
  rw [List.drop_zero] at e
  rw [e]
  unfold unqF
  split
  · rename_i r e2
    injection e2 with e1 _
    exact absurd e1 h
  · rfl
theorem unq_quote {s : ByteArray} (h0 : 0 < s.size) (h : s[0] = 34) : unqF s.data.toList = (walkP (s.data.toList.drop 1) []).getD s.data.toList := by
  have e := drop_next h0
  rw [List.drop_zero, h] at e
  generalize s.data.toList.drop 1 = r at e
  have e' : s.data.toList = 34 :: r := e
  rw [e']
  rfl
def StrPost (l : List UInt8) (w : World) (e : Ending) (w' : World) : Prop := e = .returned (.string ⟨l.toArray⟩) ∧ Below w.heap.size w w'
theorem str_self (s : ByteArray) : (⟨s.data.toList.toArray⟩ : ByteArray) = s := rfl
set_option maxRecDepth 100000 in
set_option maxHeartbeats 8000000 in
theorem unquoted_any (s : ByteArray) (w : World) (hs : s.size ≤ 1000000000000) : Calls Tryz.prog 71 #[.string s] w (StrPost (unqF s.data.toList) w) := by
  unfold StrPost
  by_cases h2 : s.size < 2
  · have HV : Hid ((⟨(unqF s.data.toList).toArray⟩ : ByteArray) = s) := Lib.hid (by rw [unq_plain h2])
    go_enter Tryz.func71, Tryz.ntmps71
    go_wp2
    go_ret
    exact ⟨by rw [HV.out]; rfl, Below.refl _ _⟩
  · by_cases h0 : s[0] = 34
    · have q0 : ((s[0].toNat : Int) != 34) = false := by rw [h0]; rfl
      have HV := Lib.hid (unq_quote (by omega) h0)
      clear h0
      go_enter Tryz.func71, Tryz.ntmps71
      go_wp2
      go_loopw [4] (fun i wr => ∃ (k : Nat) (acc : List UInt8), 1 ≤ k ∧ k ≤ s.size ∧ i = .int .i64 k ∧ Hid (UnqAt s k acc) ∧ Lib.IsBuilder 125 5 w.heap.size w.heap.size (Lib.byteCells acc) wr ∧ Below w.heap.size w wr) (fun i _ => s.size - (intOf i).toNat)
      case atStart => exact ⟨1, [], Nat.le_refl _, by omega, rfl, Lib.hid ⟨rfl, Nat.zero_le _⟩, built_emptyC, (Below.refl _ _).alloc (Nat.le_refl _) _⟩
      case round =>
        obtain ⟨k, acc, hk1, hk, rfl, HA, hB, hbr⟩ := hrel
        have HB := Lib.hid hB
        have HBR := Lib.hid hbr
        clear hB q0
        by_cases hlt : k < s.size
        · have HD := Lib.hid (drop_next hlt)
          by_cases h34 : s[k] = 34
          · have q34 : ((s[k].toNat : Int) == 34) = true := by rw [h34]; rfl
            by_cases hl : k + 1 = s.size
            · have ql : ((k : Int) == (s.size : Int) - 1) = true := by rw [beq_iff_eq]; omega
              have HE : Hid (unqF s.data.toList = acc) := Lib.hid (by
                rw [HV.out, HA.out.1, HD.out, h34, drop_end (by omega)]; rfl)
              clear h34 hl
              go_wp2_with fail
              refine (Tryz.Builder_String_any w.heap.size w.heap.size _ wr HB.out hbr.size).mono ?_
              rintro e w2 ⟨rfl, hb2⟩
              go_wp2
              go_ret
              exact ⟨by rw [HE.out]; rfl, HBR.out.trans hb2⟩
            · have ql : ((k : Int) == (s.size : Int) - 1) = false := by rw [beq_eq_false_iff_ne]; omega
              have HE : Hid ((⟨(unqF s.data.toList).toArray⟩ : ByteArray) = s) := Lib.hid (by
                rw [HV.out, HA.out.1, HD.out, h34, drop_next (k := k + 1) (by omega), walkP_inner]; exact str_self s)
              clear h34
              go_wp2
              go_ret
              exact ⟨by rw [HE.out]; rfl, HBR.out⟩
          · have q34 : ((s[k].toNat : Int) == 34) = false := byte_ne h34
            by_cases h92 : s[k] = 92 ∧ k + 1 < s.size
            · have q92 : ((s[k].toNat : Int) == 92) = true := by rw [h92.1]; rfl
              have hk2 := h92.2
              have HN : Hid (UnqAt s (k + 2) (acc ++ [s[k + 1]])) := Lib.hid ⟨by
                rw [HA.out.1, HD.out, h92.1, drop_next hk2, walkP_skip], by have := HA.out.2; simp; omega⟩
              have HAL := Lib.hid HA.out.2
              clear h92 h34
              go_wp2_with fail
              refine (writeByte_any w.heap.size w.heap.size _ _ wr HB.out (by rw [Lib.byteCells_length]; have := HAL.out; omega) hbr.size).mono ?_
              rintro e w1 ⟨rfl, hB1, hb1⟩
              have HB1 := Lib.hid hB1
              have hbr1 := hbr.trans hb1
              clear hB1 hb1
              go_wp2
              go_roundw
              case rel =>
                refine ⟨k + 2, acc ++ [s[k + 1]], by omega, by omega, by go_num, HN, ?_, hbr1⟩
                rw [Lib.byteCells_append]
                exact Or.inr (by simpa [Lib.byteCells] using HB1.out)
              case measure => simp [intOf]; omega
            · have HN : Hid (UnqAt s (k + 1) (acc ++ [s[k]])) := Lib.hid ⟨by
                rw [HA.out.1, HD.out, walkP_other h34 (by
                  rcases Classical.em (s[k] = 92) with h | h
                  · exact .inr (drop_end (fun hh => h92 ⟨h, hh⟩))
                  · exact .inl h)], by have := HA.out.2; simp; omega⟩
              have HAL := Lib.hid HA.out.2
              by_cases h92' : s[k] = 92
              · have q92 : ((s[k].toNat : Int) == 92) = true := by rw [h92']; rfl
                have hk2 : ¬ k + 1 < s.size := fun hh => h92 ⟨h92', hh⟩
                clear h92 h34 h92'
                go_wp2_with fail
                refine (writeByte_any w.heap.size w.heap.size _ _ wr HB.out (by rw [Lib.byteCells_length]; have := HAL.out; omega) hbr.size).mono ?_
                rintro e w1 ⟨rfl, hB1, hb1⟩
                have HB1 := Lib.hid hB1
                have hbr1 := hbr.trans hb1
                clear hB1 hb1
                go_wp2
                go_roundw
                case rel =>
                  refine ⟨k + 1, acc ++ [s[k]], by omega, by omega, by go_num, HN, ?_, hbr1⟩
                  rw [Lib.byteCells_append]
                  exact Or.inr (by simpa [Lib.byteCells] using HB1.out)
                case measure => simp [intOf]; omega
              · have q92 : ((s[k].toNat : Int) == 92) = false := byte_ne h92'
                clear h92 h34 h92'
                go_wp2_with fail
                refine (writeByte_any w.heap.size w.heap.size _ _ wr HB.out (by rw [Lib.byteCells_length]; have := HAL.out; omega) hbr.size).mono ?_
                rintro e w1 ⟨rfl, hB1, hb1⟩
                have HB1 := Lib.hid hB1
                have hbr1 := hbr.trans hb1
                clear hB1 hb1
                go_wp2
                go_roundw
                case rel =>
                  refine ⟨k + 1, acc ++ [s[k]], by omega, by omega, by go_num, HN, ?_, hbr1⟩
                  rw [Lib.byteCells_append]
                  exact Or.inr (by simpa [Lib.byteCells] using HB1.out)
                case measure => simp [intOf]; omega
        · have HE : Hid ((⟨(unqF s.data.toList).toArray⟩ : ByteArray) = s) := Lib.hid (by
            rw [HV.out, HA.out.1, drop_end hlt]; exact str_self s)
          go_wp2
          go_ret
          exact ⟨by rw [HE.out]; rfl, HBR.out⟩
    · have q0 : ((s[0].toNat : Int) != 34) = true := by
        have h := byte_ne (d := 34) h0
        change ((s[0].toNat : Int) == 34) = false at h
        rw [bne, h]; rfl
      have HV : Hid ((⟨(unqF s.data.toList).toArray⟩ : ByteArray) = s) := Lib.hid (by rw [unq_other (by omega) h0])
      clear h0
      go_enter Tryz.func71, Tryz.ntmps71
      go_wp2
      go_ret
      exact ⟨by rw [HV.out]; rfl, Below.refl _ _⟩
end Go.Proofs.YtaimhfnddolilaaGreatDoor.CtrlS
namespace Go.Proofs.YtaimhfnddolilaaGreatDoor.NormS
open Go.RowKit HeadMath NormMath

def MBlk (w : World) (g : Nat) (t : TypeId) (cs : Array Value) (r : Nat × Nat) : Prop := w.heap[g]? = some (.cells cs t r)
section
variable {w w' : World} {g : Nat} {t : TypeId} {cs : Array Value} {r : Nat × Nat}
theorem MBlk.lt (h : MBlk w g t cs r) : g < w.heap.size := by
  rcases Nat.lt_or_ge g w.heap.size with hlt | hge
  · exact hlt
  · unfold MBlk at h; rw [Array.getElem?_eq_none hge] at h; cases h
theorem MBlk.cell (h : MBlk w g t cs r) (i : Nat) : w.cell? ⟨g, i, none⟩ = cs[i]? := cell_of_row w g i cs t r h
theorem MBlk.frozen (h : MBlk w g t cs r) (i : Nat) (hi : i < r.1) : w.frozen? ⟨g, i, none⟩ = false := by
  unfold MBlk at h
  simp [World.frozen?, h]
  omega
theorem MBlk.new (w : World) (t : TypeId) (cs : Array Value) (r : Nat × Nat) : MBlk (w.alloc (.cells cs t r)) w.heap.size t cs r := heap_alloc_new w _
theorem MBlk.set_ (h : MBlk w g t cs r) (i : Nat) (u : Value) : MBlk (w.setCell ⟨g, i, none⟩ u) g t (cs.setIfInBounds i u) r := by
  unfold MBlk at h ⊢
  simp [World.setCell, Array.getElem?_modify, h]
end

/-- The text with small letters up to k. -/
def mixL (l : List UInt8) (k : Nat) : List UInt8 := (l.take k).map small ++ l.drop k
theorem mixL_len (l : List UInt8) (k : Nat) : (mixL l k).length = l.length := by
  simp [mixL]; omega
theorem mixL_zero (l : List UInt8) : mixL l 0 = l := by simp [mixL]
theorem mixL_get (l : List UInt8) (k j : Nat) (h : j < l.length) : (mixL l k)[j]? = some (if j < k then small l[j] else l[j]) := by
  unfold mixL
  by_cases hj : j < k
  · rw [List.getElem?_append_left (by simp; omega), if_pos hj]
    simp [hj, h]
  · rw [List.getElem?_append_right (by simp; omega), if_neg hj, List.getElem?_drop]
    rw [List.getElem?_eq_getElem (by simp; omega)]
    congr 2
    simp; omega

def mixRow (l : List UInt8) (k pad : Nat) : Array Value := ((mixL l k).map fun b => Value.int .u8 b.toNat).toArray ++ Array.replicate pad (.int .u8 0)
theorem mixRow_get (l : List UInt8) (k pad j : Nat) (h : j < l.length) : (mixRow l k pad)[j]? = some (.int .u8 ((if j < k then small l[j] else l[j]).toNat : Int)) := by
  unfold mixRow
  rw [Array.getElem?_append_left (by simp [mixL_len, h])]
  simp [mixL_get l k j h]
theorem mixRow_set (l : List UInt8) (k pad : Nat) (h : k < l.length) : (mixRow l k pad).setIfInBounds k (.int .u8 ((small l[k]).toNat : Int)) = mixRow l (k + 1) pad := by
  apply Array.ext_getElem?
  intro i
  rw [Array.getElem?_setIfInBounds]
  have hsz : ∀ k', (mixRow l k' pad).size = l.length + pad := fun k' => by simp [mixRow, mixL_len]
  by_cases hik : k = i
  · subst hik
    rw [if_pos rfl, if_pos (by rw [hsz]; omega), mixRow_get _ _ _ _ h, if_pos (by omega)]
  · rw [if_neg hik]
    by_cases hi : i < l.length
    · rw [mixRow_get _ _ _ _ hi, mixRow_get _ _ _ _ hi]
      by_cases h2 : i < k
      · rw [if_pos h2, if_pos (by omega)]
      · rw [if_neg h2, if_neg (by omega)]
    · unfold mixRow
      rw [Array.getElem?_append_right (by simp [mixL_len]; omega), Array.getElem?_append_right (by simp [mixL_len]; omega)]
      simp [mixL_len]
theorem bytesRow_mix (s : ByteArray) (cap : Nat) : bytesRow s cap = mixRow s.data.toList 0 (cap - s.size) := by
  unfold bytesRow mixRow
  rw [mixL_zero]
  congr 1
  apply Array.ext'
  simp

set_option maxRecDepth 100000 in
theorem conv_low {w : World} {g pad cap : Nat} {r : Nat × Nat} (s : ByteArray) (h : MBlk w g 5 (mixRow s.data.toList s.size pad) r) :
    (convert 23 9 (.slice (some ⟨g, 0, none⟩) s.size cap)).run Tryz.prog w = .ok (.string ⟨(lowF s.data.toList).toArray⟩) w := by
  have := run_convert_bytes_back (P := Tryz.prog) w 23 9 5 ⟨g, 0, none⟩ cap (lowF s.data.toList) Tryz.underlying23 Tryz.underlying5 Tryz.underlying9 (fun j hj => by
    have e : (⟨g, 0, none⟩ : Addr).add j = ⟨g, j, none⟩ := by unfold Addr.add; by_cases h0 : j = 0 <;> simp [h0]
    have hj' : j < s.size := by simpa [lowF] using hj
    rw [e, h.cell j, mixRow_get _ _ _ _ (by rw [size_list]; exact hj'), if_pos hj']
    simp [lowF])
  have hl : (lowF s.data.toList).length = s.size := by simp [lowF]
  rwa [hl] at this

set_option maxHeartbeats 2000000 in
theorem refLow_any (s : ByteArray) (w : World) (hs : s.size ≤ 140737488351232) : Calls Tryz.prog 54 #[.string s] w fun e w' => e = .returned (.string ⟨(lowF s.data.toList).toArray⟩) ∧ Below w.heap.size w w' := by
  have hcv := fun w s => run_bytes_of_string (P := Tryz.prog) w 9 23 5 s Tryz.underlying9 Tryz.underlying23 Tryz.underlying5
  have hm0 := fun cap => Lib.hid (bytesRow_mix s cap)
  go_enter Tryz.func54, Tryz.ntmps54
  go_wp2
  generalize grownCap w s.size 0 5 = cap
  have hB0 : MBlk (w.alloc (.cells (bytesRow s cap) 5 ((bytesRow s cap).size, (bytesRow s cap).size + 1))).drew w.heap.size 5 (mixRow s.data.toList 0 (cap - s.size)) (s.size + (cap - s.size), s.size + (cap - s.size) + 1) := by
    have h := MBlk.new w 5 (bytesRow s cap) ((bytesRow s cap).size, (bytesRow s cap).size + 1)
    have hsz : (bytesRow s cap).size = s.size + (cap - s.size) := by simp [bytesRow]
    rw [hsz] at h ⊢
    rw [(hm0 cap).out] at h ⊢
    exact h
  have hbe0 : Below w.heap.size w (w.alloc (.cells (bytesRow s cap) 5 ((bytesRow s cap).size, (bytesRow s cap).size + 1))).drew := ((Below.refl _ w).alloc (Nat.le_refl _) _).drew
  generalize (w.alloc (.cells (bytesRow s cap) 5 ((bytesRow s cap).size, (bytesRow s cap).size + 1))).drew = w0 at hB0 hbe0 ⊢
  generalize cap - s.size = pad at hB0
  go_loopw [4] (fun i wr => ∃ k : Nat, k ≤ s.size ∧ i = .int .i64 k ∧ MBlk wr w.heap.size 5 (mixRow s.data.toList k pad) (s.size + pad, s.size + pad + 1) ∧ Below w.heap.size w wr) (fun i _ => s.size - (intOf i).toNat)
  case atStart => exact ⟨0, Nat.zero_le _, rfl, hB0, hbe0⟩
  case round =>
    obtain ⟨k, hk, rfl, hA, hb⟩ := hrel
    clear hB0 hbe0 hcv
    by_cases hlt : k < s.size
    · have a0 := hA.cell k
      have hk' : k < s.data.toList.length := by rw [size_list]; exact hlt
      rw [mixRow_get _ _ _ _ hk', if_neg (Nat.lt_irrefl k)] at a0
      have f0 := hA.frozen k (by simp; omega)
      have HS := Lib.hid (mixRow_set s.data.toList k pad hk')
      go_wp2_with fail
      refine (low_any _ _).mono ?_
      rintro e w1 ⟨rfl, rfl⟩
      go_wp2
      go_roundw
      case rel =>
        refine ⟨k + 1, by omega, by go_num, ?_, hb.setCell (by simp) _⟩
        rw [← HS.out]
        exact hA.set_ k _
      case measure => simp [intOf]; omega
    · have hks : k = s.size := by omega
      subst hks
      have c0 := conv_low (cap := cap) s hA
      go_wp2
      go_ret
      exact ⟨rfl, hb⟩
set_option maxHeartbeats 2000000 in
theorem lower_any (s : ByteArray) (w : World) (hs : s.size ≤ 140737488351232) : Calls Tryz.prog 72 #[.string s] w fun e w' => e = .returned (.string ⟨(lowF s.data.toList).toArray⟩) ∧ Below w.heap.size w w' := by
  have hcv := fun w s => run_bytes_of_string (P := Tryz.prog) w 9 23 5 s Tryz.underlying9 Tryz.underlying23 Tryz.underlying5
  have hm0 := fun cap => Lib.hid (bytesRow_mix s cap)
  go_enter Tryz.func72, Tryz.ntmps72
  go_wp2
  generalize grownCap w s.size 0 5 = cap
  have hB0 : MBlk (w.alloc (.cells (bytesRow s cap) 5 ((bytesRow s cap).size, (bytesRow s cap).size + 1))).drew w.heap.size 5 (mixRow s.data.toList 0 (cap - s.size)) (s.size + (cap - s.size), s.size + (cap - s.size) + 1) := by
    have h := MBlk.new w 5 (bytesRow s cap) ((bytesRow s cap).size, (bytesRow s cap).size + 1)
    have hsz : (bytesRow s cap).size = s.size + (cap - s.size) := by simp [bytesRow]
    rw [hsz] at h ⊢
    rw [(hm0 cap).out] at h ⊢
    exact h
  have hbe0 : Below w.heap.size w (w.alloc (.cells (bytesRow s cap) 5 ((bytesRow s cap).size, (bytesRow s cap).size + 1))).drew := ((Below.refl _ w).alloc (Nat.le_refl _) _).drew
  generalize (w.alloc (.cells (bytesRow s cap) 5 ((bytesRow s cap).size, (bytesRow s cap).size + 1))).drew = w0 at hB0 hbe0 ⊢
  generalize cap - s.size = pad at hB0
  go_loopw [10] (fun i wr => ∃ k : Nat, k ≤ s.size ∧ i = .int .i64 k ∧ MBlk wr w.heap.size 5 (mixRow s.data.toList k pad) (s.size + pad, s.size + pad + 1) ∧ Below w.heap.size w wr) (fun i _ => s.size - (intOf i).toNat)
  case atStart => exact ⟨0, Nat.zero_le _, rfl, hB0, hbe0⟩
  case round =>
    obtain ⟨k, hk, rfl, hA, hb⟩ := hrel
    clear hB0 hbe0 hcv
    by_cases hlt : k < s.size
    · have a0 := hA.cell k
      have hk' : k < s.data.toList.length := by rw [size_list]; exact hlt
      rw [mixRow_get _ _ _ _ hk', if_neg (Nat.lt_irrefl k)] at a0
      have f0 := hA.frozen k (by simp; omega)
      have HS := Lib.hid (mixRow_set s.data.toList k pad hk')
      go_wp2_with fail
      refine (small_any _ _).mono ?_
      rintro e w1 ⟨rfl, rfl⟩
      go_wp2
      go_roundw
      case rel =>
        refine ⟨k + 1, by omega, by go_num, ?_, hb.setCell (by simp) _⟩
        rw [← HS.out]
        exact hA.set_ k _
      case measure => simp [intOf]; omega
    · have hks : k = s.size := by omega
      subst hks
      have c0 := conv_low (cap := cap) s hA
      go_wp2
      go_ret
      exact ⟨rfl, hb⟩
end Go.Proofs.YtaimhfnddolilaaGreatDoor.NormS
namespace Go.Proofs.YtaimhfnddolilaaGreatDoor.CtrlS
open Go.RowKit HeadMath HeadS

theorem ctl_set {w : World} {g : Nat} {t : TypeId} {cs : Array Value} (h : w.heap[g]? = some (.cells cs t (0, 0))) (i : Nat) (u : Value) : (w.setCell ⟨g, i, none⟩ u).heap[g]? = some (.cells (cs.setIfInBounds i u) t (0, 0)) := by
  simp [World.setCell, Array.getElem?_modify, h]
def valSec (v : ByteArray) : Int := max (secF (unqF v.data.toList)) 0
theorem valSec_in (v : ByteArray) : 0 ≤ valSec v ∧ valSec v ≤ maxAge := by
  have := secF_in (unqF v.data.toList)
  unfold valSec maxAge at *
  omega
/-- A field of a block is made least. -/
def LeastPost (cb j : Nat) (cs : Array Value) (t : TypeId) (old n : Int) (w : World) (e : Ending) (w' : World) : Prop :=
  e = .returned (.tuple #[]) ∧ w'.heap[cb]? = some (.cells (cs.setIfInBounds j (.int .i64 (leastF old n))) t (0, 0)) ∧ Spares (fun b => b = cb) w w'
set_option maxRecDepth 100000 in
set_option maxHeartbeats 4000000 in
theorem least_any (v : ByteArray) (vb cb j : Nat) (cs : Array Value) (t : TypeId) (old : Int) (w : World) (hv : w.cell? ⟨vb, 0, none⟩ = some (.string v)) (hc : w.heap[cb]? = some (.cells cs t (0, 0))) (ho : cs[j]? = some (.int .i64 old)) (hs : v.size ≤ 1000000000) :
    Calls Tryz.prog 70 #[.pointer (some ⟨cb, j, none⟩), .pointer (some ⟨vb, 0, none⟩)] w (LeastPost cb j cs t old (valSec v) w) := by
  have hlt : cb < w.heap.size := (Array.getElem?_eq_some_iff.1 hc).1
  have HC := Lib.hid hc
  have HO := Lib.hid ho
  obtain ⟨u, hu⟩ : ∃ u : ByteArray, (⟨(unqF v.data.toList).toArray⟩ : ByteArray) = u := ⟨_, rfl⟩
  have hul : u.data.toList = unqF v.data.toList := by rw [← hu]
  have HN : Hid (valSec v = max (secF u.data.toList) 0) := Lib.hid (by rw [hul]; rfl)
  have cU := fun w => unquoted_any v w (by omega)
  unfold StrPost at cU
  simp only [hu] at cU
  have hus : u.size ≤ 1000000000 := by
    have h1 : (unqF v.data.toList).length ≤ v.data.toList.length := unqF_len _
    rw [← hul, size_list, size_list] at h1
    omega
  have cS := fun w => seconds_any u w (by omega)
  unfold SecPost at cS
  obtain ⟨z, hz⟩ : ∃ z, secF u.data.toList = z := ⟨_, rfl⟩
  rw [hz] at HN
  simp only [hz] at cS
  have hzi := secF_in u.data.toList
  rw [hz] at hzi
  unfold maxAge at hzi
  obtain ⟨n, hn⟩ : ∃ n, max z 0 = n := ⟨_, rfl⟩
  rw [hn] at HN
  have HMX := Lib.hid hn
  clear hc ho hu hul hz
  unfold LeastPost
  go_enter Tryz.func70, Tryz.ntmps70
  go_wp2_with fail
  refine (cU w).mono ?_
  rintro e w1 ⟨rfl, hb1⟩
  clear cU
  go_wp2_with fail
  refine (cS w1).mono ?_
  rintro e w1' ⟨rfl, rfl⟩
  clear cS
  have hh : w1'.heap[cb]? = some (.cells cs t (0, 0)) := (hb1.block cb hlt).trans HC.out
  have HH := Lib.hid hh
  have f1 : w1'.cell? ⟨cb, j, none⟩ = some (.int .i64 old) := by rw [Lib.cell_of_heap hh]; exact HO.out
  have fz : w1'.frozen? ⟨cb, j, none⟩ = false := Lib.frozen_of_heap hh j
  have HB1 := Lib.hid hb1
  clear hh hv hb1
  by_cases h1 : old = -1
  · have HL : Hid (leastF old (valSec v) = n) := Lib.hid (by unfold leastF; rw [if_pos (.inl h1), HN.out])
    have q1 : (old == -1) = true := by rw [h1]; rfl
    go_wp2
    go_end0
    exact ⟨rfl, by rw [HL.out]; exact ctl_set HH.out j _, ((Below.spares (F := fun b => b = cb) HB1.out (fun k hk => .inr hk)).setCell (p := ⟨cb, j, none⟩) (.inl rfl) _)⟩
  · have q1 : (old == -1) = false := by rw [beq_eq_false_iff_ne]; exact h1
    by_cases h2 : n < old
    · have HL : Hid (leastF old (valSec v) = n) := Lib.hid (by rw [HN.out]; unfold leastF; rw [if_pos (.inr h2)])
      clear h1
      go_wp2
      go_end0
      exact ⟨rfl, by rw [HL.out]; exact ctl_set HH.out j _, ((Below.spares (F := fun b => b = cb) HB1.out (fun k hk => .inr hk)).setCell (p := ⟨cb, j, none⟩) (.inl rfl) _)⟩
    · have HL : Hid (leastF old (valSec v) = old) := Lib.hid (by rw [HN.out]; unfold leastF; rw [if_neg (by intro h; rcases h with h | h; exact h1 h; exact h2 h)])
      have HSET : Hid (cs.setIfInBounds j (.int .i64 old) = cs) := Lib.hid (by
        apply Array.ext'
        rw [Array.toList_setIfInBounds]
        apply List.ext_getElem?
        intro i
        rw [List.getElem?_set]
        split
        · rename_i e
          subst e
          have := HO.out
          rw [← Array.getElem?_toList] at this
          split
          · exact this.symm
          · rename_i hh
            rw [List.getElem?_eq_none (by omega)]
        · rfl)
      clear h1
      go_wp2
      go_end0
      exact ⟨rfl, by rw [HL.out, HSET.out]; exact HH.out, Below.spares (F := fun b => b = cb) HB1.out (fun k hk => .inr hk)⟩
end Go.Proofs.YtaimhfnddolilaaGreatDoor.CtrlS
namespace Go.Proofs.YtaimhfnddolilaaGreatDoor.CtrlS
open Go.RowKit HeadMath HeadS

def hasP (p : ByteArray) : Bool := !decide (eqAt p < 0)
def namP (p : ByteArray) : ByteArray := if eqAt p < 0 then p else p.extract 0 (eqAt p).toNat
def valP (p : ByteArray) : ByteArray := if eqAt p < 0 then ⟨#[]⟩ else p.extract ((eqAt p).toNat + 1) p.size
theorem namP_size (p : ByteArray) : (namP p).size ≤ p.size := by
  unfold namP; split
  · exact Nat.le_refl _
  · rw [ByteArray.size_extract]; omega
theorem valP_size (p : ByteArray) : (valP p).size ≤ p.size := by
  unfold valP; split
  · exact Nat.zero_le _
  · rw [ByteArray.size_extract]; omega
def cutVal (p : ByteArray) : Value := .tuple #[.string (namP p), .string (valP p), .bool (hasP p)]
theorem cutVal_none {p : ByteArray} (h : eqAt p < 0) : cutVal p = .tuple #[.string p, .string { data := #[] }, .bool false] := by
  unfold cutVal hasP namP valP; rw [if_pos h, if_pos h, decide_eq_true h]; rfl
theorem cutVal_some {p : ByteArray} {i : Nat} (h : eqAt p = i) : cutVal p = .tuple #[.string (p.extract 0 i), .string (p.extract (i + 1) p.size), .bool true] := by
  have hn : ¬ eqAt p < 0 := by omega
  unfold cutVal hasP namP valP; rw [if_neg hn, if_neg hn, decide_eq_false hn, h]; rfl
theorem cutE_any (p : ByteArray) (w : World) (hs : p.size ≤ 140737488351232) : Calls Tryz.prog 69 #[.string p, .string { data := #[61] }] w (DrewPostE w (cutVal p)) := by
  by_cases h : eqAt p < 0
  · rw [cutVal_none h]; exact cutE_none p w hs h
  · obtain ⟨i, hi⟩ : ∃ i : Nat, eqAt p = i := ⟨(eqAt p).toNat, by omega⟩
    rw [cutVal_some hi]; exact cutE_some p w hs i hi
def kindP (p : ByteArray) : Nat := kindF (lowF (namP p).data.toList)
def sayF (c : Ctl) (p : ByteArray) : Ctl := actK (kindP p) (hasP p) (valSec (valP p)) c
/-- The block g holds the control c. -/
def CtlAt (w : World) (g : Nat) (c : Ctl) : Prop := w.heap[g]? = some (.cells #[.bool c.noStore, .bool c.noCache, .bool c.priv, .bool c.pub, .bool c.must, .bool c.prox, .bool c.only, .bool c.anyStale, .int .i64 c.maxA, .int .i64 c.sMax, .int .i64 c.minF, .int .i64 c.maxS] 29 (0, 0))
def SayPost (g : Nat) (c : Ctl) (w : World) (e : Ending) (w' : World) : Prop := e = .returned (.tuple #[]) ∧ CtlAt w' g c ∧ Spares (fun b => b = g) w w'
theorem CtlAt.spares {F : Nat → Prop} {w w' : World} {g : Nat} {c : Ctl} (h : CtlAt w g c) (hs : Spares F w w') (hn : ¬ F g) : CtlAt w' g c := hs.heap h hn
set_option maxRecDepth 100000 in
set_option maxHeartbeats 4000000 in
theorem say_kind0 (c : Ctl) (p : ByteArray) (g : Nat) (w : World) (hc : CtlAt w g c) (hs : p.size ≤ 1000000000) (hk0 : kindP p = 0) : Calls Tryz.prog 49 #[.pointer (some ⟨g, 0, none⟩), .string p] w (SayPost g (sayF c p) w) := by
  have hk : kindF (lowF (namP p).data.toList) = 0 := hk0
  have hlt : g < w.heap.size := (Array.getElem?_eq_some_iff.1 hc).1
  have HF : Hid (sayF c p = actK 0 (hasP p) (valSec (valP p)) c) := Lib.hid (by unfold sayF; rw [hk0])
  obtain ⟨lo, hlo'⟩ : ∃ lo : ByteArray, (⟨(lowF (namP p).data.toList).toArray⟩ : ByteArray) = lo := ⟨_, rfl⟩
  have hlo : lo.data.toList = lowF (namP p).data.toList := by rw [← hlo']
  have t0 : (lo.toList == [110, 111, 45, 115, 116, 111, 114, 101]) = true := by
    rw [Lib.toList_data, hlo]
    have := kind_is (lowF (namP p).data.toList) (by rw [hk]; decide)
    simp only [hk] at this
    exact this
  have cL := fun w => NormS.lower_any (namP p) w (by have := namP_size p; omega)
  simp only [hlo'] at cL
  have cC := fun w => cutE_any p w (by omega)
  unfold cutVal at cC
  have hvs := valP_size p
  clear hlo hlo' hk hk0
  obtain ⟨nm, hnm⟩ : ∃ x, namP p = x := ⟨_, rfl⟩
  obtain ⟨vl, hvl⟩ : ∃ x, valP p = x := ⟨_, rfl⟩
  obtain ⟨hs0, hhs⟩ : ∃ x, hasP p = x := ⟨_, rfl⟩
  simp only [hnm, hvl, hhs] at cC cL hvs HF
  clear hnm hvl hhs
  have hmf : ∀ (fn : Fn) (first cap : Array Value) (w : World), (Instr.makeFunc fn first cap).run Tryz.prog w = .ok (.func fn first cap) w := fun _ _ _ _ => rfl
  have HC := Lib.hid hc
  clear hc
  unfold SayPost
  go_enter Tryz.func49, Tryz.ntmps49
  go_wp2_with fail
  refine (cC w).mono ?_
  rintro e w0 ⟨dm, rfl, rfl⟩
  obtain ⟨w1, hw1⟩ : ∃ w1, w.drewN dm = w1 := ⟨_, rfl⟩
  have hs1 : Spares nowhere w w1 := by rw [← hw1]; exact (Spares.refl nowhere w).drewN dm
  rw [hw1]
  clear cC hw1
  go_wp2_with fail
  refine (cL _).mono ?_
  rintro e w2 ⟨rfl, hb2⟩
  clear cL
  have hv2 : w2.cell? ⟨w1.heap.size, 0, none⟩ = some (.string vl) := (hb2.cell (p := ⟨w1.heap.size, 0, none⟩) (by simp)).trans (by simp [go_sem])
  have hs2 : Spares nowhere w w2 := (hs1.alloc (.cells #[.string vl] 9)).trans' (Below.spares (F := nowhere) hb2 (fun k hk => .inr hk)) (fun b hb => by cases hb)
  have hh : CtlAt w2 g c := HC.out.spares hs2 (fun h => h)
  have HH := Lib.hid hh
  have HS2 := Lib.hid hs2
  have hlt2 : g < w2.heap.size := by have := hs2.size; omega
  clear hb2 hs2 hh hs1
  have fz : w2.frozen? ⟨g, 0, none⟩ = false := Lib.frozen_of_heap HH.out 0
  have f1 := Lib.cell_of_heap HH.out 0
  clear hv2
  change w2.cell? ⟨g, 0, none⟩ = some (.bool c.noStore) at f1
  go_wp2
  go_end0
  exact ⟨rfl, by rw [HF.out]; exact ctl_set HH.out 0 _, (HS2.out.mono (F' := fun b => b = g) (fun b h => by cases h)).setCell (p := ⟨g, 0, none⟩) (.inl rfl) _⟩
set_option maxRecDepth 100000 in
set_option maxHeartbeats 4000000 in
theorem say_kind1 (c : Ctl) (p : ByteArray) (g : Nat) (w : World) (hc : CtlAt w g c) (hs : p.size ≤ 1000000000) (hk0 : kindP p = 1) : Calls Tryz.prog 49 #[.pointer (some ⟨g, 0, none⟩), .string p] w (SayPost g (sayF c p) w) := by
  have hk : kindF (lowF (namP p).data.toList) = 1 := hk0
  have hlt : g < w.heap.size := (Array.getElem?_eq_some_iff.1 hc).1
  have HF : Hid (sayF c p = actK 1 (hasP p) (valSec (valP p)) c) := Lib.hid (by unfold sayF; rw [hk0])
  obtain ⟨lo, hlo'⟩ : ∃ lo : ByteArray, (⟨(lowF (namP p).data.toList).toArray⟩ : ByteArray) = lo := ⟨_, rfl⟩
  have hlo : lo.data.toList = lowF (namP p).data.toList := by rw [← hlo']
  have t0 : (lo.toList == [110, 111, 45, 115, 116, 111, 114, 101]) = false := by
    rw [Lib.toList_data, hlo]
    exact kind_not _ 0 (by decide) (by rw [hk]; decide)
  have t1 : (lo.toList == [110, 111, 45, 99, 97, 99, 104, 101]) = true := by
    rw [Lib.toList_data, hlo]
    have := kind_is (lowF (namP p).data.toList) (by rw [hk]; decide)
    simp only [hk] at this
    exact this
  have cL := fun w => NormS.lower_any (namP p) w (by have := namP_size p; omega)
  simp only [hlo'] at cL
  have cC := fun w => cutE_any p w (by omega)
  unfold cutVal at cC
  have hvs := valP_size p
  clear hlo hlo' hk hk0
  obtain ⟨nm, hnm⟩ : ∃ x, namP p = x := ⟨_, rfl⟩
  obtain ⟨vl, hvl⟩ : ∃ x, valP p = x := ⟨_, rfl⟩
  obtain ⟨hs0, hhs⟩ : ∃ x, hasP p = x := ⟨_, rfl⟩
  simp only [hnm, hvl, hhs] at cC cL hvs HF
  clear hnm hvl hhs
  have hmf : ∀ (fn : Fn) (first cap : Array Value) (w : World), (Instr.makeFunc fn first cap).run Tryz.prog w = .ok (.func fn first cap) w := fun _ _ _ _ => rfl
  have HC := Lib.hid hc
  clear hc
  unfold SayPost
  go_enter Tryz.func49, Tryz.ntmps49
  go_wp2_with fail
  refine (cC w).mono ?_
  rintro e w0 ⟨dm, rfl, rfl⟩
  obtain ⟨w1, hw1⟩ : ∃ w1, w.drewN dm = w1 := ⟨_, rfl⟩
  have hs1 : Spares nowhere w w1 := by rw [← hw1]; exact (Spares.refl nowhere w).drewN dm
  rw [hw1]
  clear cC hw1
  go_wp2_with fail
  refine (cL _).mono ?_
  rintro e w2 ⟨rfl, hb2⟩
  clear cL
  have hv2 : w2.cell? ⟨w1.heap.size, 0, none⟩ = some (.string vl) := (hb2.cell (p := ⟨w1.heap.size, 0, none⟩) (by simp)).trans (by simp [go_sem])
  have hs2 : Spares nowhere w w2 := (hs1.alloc (.cells #[.string vl] 9)).trans' (Below.spares (F := nowhere) hb2 (fun k hk => .inr hk)) (fun b hb => by cases hb)
  have hh : CtlAt w2 g c := HC.out.spares hs2 (fun h => h)
  have HH := Lib.hid hh
  have HS2 := Lib.hid hs2
  have hlt2 : g < w2.heap.size := by have := hs2.size; omega
  clear hb2 hs2 hh hs1
  have fz : w2.frozen? ⟨g, 1, none⟩ = false := Lib.frozen_of_heap HH.out 1
  have f1 := Lib.cell_of_heap HH.out 1
  clear hv2
  change w2.cell? ⟨g, 1, none⟩ = some (.bool c.noCache) at f1
  go_wp2
  go_end0
  exact ⟨rfl, by rw [HF.out]; exact ctl_set HH.out 1 _, (HS2.out.mono (F' := fun b => b = g) (fun b h => by cases h)).setCell (p := ⟨g, 1, none⟩) (.inl rfl) _⟩
set_option maxRecDepth 100000 in
set_option maxHeartbeats 4000000 in
theorem say_kind2 (c : Ctl) (p : ByteArray) (g : Nat) (w : World) (hc : CtlAt w g c) (hs : p.size ≤ 1000000000) (hk0 : kindP p = 2) : Calls Tryz.prog 49 #[.pointer (some ⟨g, 0, none⟩), .string p] w (SayPost g (sayF c p) w) := by
  have hk : kindF (lowF (namP p).data.toList) = 2 := hk0
  have hlt : g < w.heap.size := (Array.getElem?_eq_some_iff.1 hc).1
  have HF : Hid (sayF c p = actK 2 (hasP p) (valSec (valP p)) c) := Lib.hid (by unfold sayF; rw [hk0])
  obtain ⟨lo, hlo'⟩ : ∃ lo : ByteArray, (⟨(lowF (namP p).data.toList).toArray⟩ : ByteArray) = lo := ⟨_, rfl⟩
  have hlo : lo.data.toList = lowF (namP p).data.toList := by rw [← hlo']
  have t0 : (lo.toList == [110, 111, 45, 115, 116, 111, 114, 101]) = false := by
    rw [Lib.toList_data, hlo]
    exact kind_not _ 0 (by decide) (by rw [hk]; decide)
  have t1 : (lo.toList == [110, 111, 45, 99, 97, 99, 104, 101]) = false := by
    rw [Lib.toList_data, hlo]
    exact kind_not _ 1 (by decide) (by rw [hk]; decide)
  have t2 : (lo.toList == [112, 114, 105, 118, 97, 116, 101]) = true := by
    rw [Lib.toList_data, hlo]
    have := kind_is (lowF (namP p).data.toList) (by rw [hk]; decide)
    simp only [hk] at this
    exact this
  have cL := fun w => NormS.lower_any (namP p) w (by have := namP_size p; omega)
  simp only [hlo'] at cL
  have cC := fun w => cutE_any p w (by omega)
  unfold cutVal at cC
  have hvs := valP_size p
  clear hlo hlo' hk hk0
  obtain ⟨nm, hnm⟩ : ∃ x, namP p = x := ⟨_, rfl⟩
  obtain ⟨vl, hvl⟩ : ∃ x, valP p = x := ⟨_, rfl⟩
  obtain ⟨hs0, hhs⟩ : ∃ x, hasP p = x := ⟨_, rfl⟩
  simp only [hnm, hvl, hhs] at cC cL hvs HF
  clear hnm hvl hhs
  have hmf : ∀ (fn : Fn) (first cap : Array Value) (w : World), (Instr.makeFunc fn first cap).run Tryz.prog w = .ok (.func fn first cap) w := fun _ _ _ _ => rfl
  have HC := Lib.hid hc
  clear hc
  unfold SayPost
  go_enter Tryz.func49, Tryz.ntmps49
  go_wp2_with fail
  refine (cC w).mono ?_
  rintro e w0 ⟨dm, rfl, rfl⟩
  obtain ⟨w1, hw1⟩ : ∃ w1, w.drewN dm = w1 := ⟨_, rfl⟩
  have hs1 : Spares nowhere w w1 := by rw [← hw1]; exact (Spares.refl nowhere w).drewN dm
  rw [hw1]
  clear cC hw1
  go_wp2_with fail
  refine (cL _).mono ?_
  rintro e w2 ⟨rfl, hb2⟩
  clear cL
  have hv2 : w2.cell? ⟨w1.heap.size, 0, none⟩ = some (.string vl) := (hb2.cell (p := ⟨w1.heap.size, 0, none⟩) (by simp)).trans (by simp [go_sem])
  have hs2 : Spares nowhere w w2 := (hs1.alloc (.cells #[.string vl] 9)).trans' (Below.spares (F := nowhere) hb2 (fun k hk => .inr hk)) (fun b hb => by cases hb)
  have hh : CtlAt w2 g c := HC.out.spares hs2 (fun h => h)
  have HH := Lib.hid hh
  have HS2 := Lib.hid hs2
  have hlt2 : g < w2.heap.size := by have := hs2.size; omega
  clear hb2 hs2 hh hs1
  have fz : w2.frozen? ⟨g, 2, none⟩ = false := Lib.frozen_of_heap HH.out 2
  have f1 := Lib.cell_of_heap HH.out 2
  clear hv2
  change w2.cell? ⟨g, 2, none⟩ = some (.bool c.priv) at f1
  go_wp2
  go_end0
  exact ⟨rfl, by rw [HF.out]; exact ctl_set HH.out 2 _, (HS2.out.mono (F' := fun b => b = g) (fun b h => by cases h)).setCell (p := ⟨g, 2, none⟩) (.inl rfl) _⟩
set_option maxRecDepth 100000 in
set_option maxHeartbeats 4000000 in
theorem say_kind3 (c : Ctl) (p : ByteArray) (g : Nat) (w : World) (hc : CtlAt w g c) (hs : p.size ≤ 1000000000) (hk0 : kindP p = 3) : Calls Tryz.prog 49 #[.pointer (some ⟨g, 0, none⟩), .string p] w (SayPost g (sayF c p) w) := by
  have hk : kindF (lowF (namP p).data.toList) = 3 := hk0
  have hlt : g < w.heap.size := (Array.getElem?_eq_some_iff.1 hc).1
  have HF : Hid (sayF c p = actK 3 (hasP p) (valSec (valP p)) c) := Lib.hid (by unfold sayF; rw [hk0])
  obtain ⟨lo, hlo'⟩ : ∃ lo : ByteArray, (⟨(lowF (namP p).data.toList).toArray⟩ : ByteArray) = lo := ⟨_, rfl⟩
  have hlo : lo.data.toList = lowF (namP p).data.toList := by rw [← hlo']
  have t0 : (lo.toList == [110, 111, 45, 115, 116, 111, 114, 101]) = false := by
    rw [Lib.toList_data, hlo]
    exact kind_not _ 0 (by decide) (by rw [hk]; decide)
  have t1 : (lo.toList == [110, 111, 45, 99, 97, 99, 104, 101]) = false := by
    rw [Lib.toList_data, hlo]
    exact kind_not _ 1 (by decide) (by rw [hk]; decide)
  have t2 : (lo.toList == [112, 114, 105, 118, 97, 116, 101]) = false := by
    rw [Lib.toList_data, hlo]
    exact kind_not _ 2 (by decide) (by rw [hk]; decide)
  have t3 : (lo.toList == [112, 117, 98, 108, 105, 99]) = true := by
    rw [Lib.toList_data, hlo]
    have := kind_is (lowF (namP p).data.toList) (by rw [hk]; decide)
    simp only [hk] at this
    exact this
  have cL := fun w => NormS.lower_any (namP p) w (by have := namP_size p; omega)
  simp only [hlo'] at cL
  have cC := fun w => cutE_any p w (by omega)
  unfold cutVal at cC
  have hvs := valP_size p
  clear hlo hlo' hk hk0
  obtain ⟨nm, hnm⟩ : ∃ x, namP p = x := ⟨_, rfl⟩
  obtain ⟨vl, hvl⟩ : ∃ x, valP p = x := ⟨_, rfl⟩
  obtain ⟨hs0, hhs⟩ : ∃ x, hasP p = x := ⟨_, rfl⟩
  simp only [hnm, hvl, hhs] at cC cL hvs HF
  clear hnm hvl hhs
  have hmf : ∀ (fn : Fn) (first cap : Array Value) (w : World), (Instr.makeFunc fn first cap).run Tryz.prog w = .ok (.func fn first cap) w := fun _ _ _ _ => rfl
  have HC := Lib.hid hc
  clear hc
  unfold SayPost
  go_enter Tryz.func49, Tryz.ntmps49
  go_wp2_with fail
  refine (cC w).mono ?_
  rintro e w0 ⟨dm, rfl, rfl⟩
  obtain ⟨w1, hw1⟩ : ∃ w1, w.drewN dm = w1 := ⟨_, rfl⟩
  have hs1 : Spares nowhere w w1 := by rw [← hw1]; exact (Spares.refl nowhere w).drewN dm
  rw [hw1]
  clear cC hw1
  go_wp2_with fail
  refine (cL _).mono ?_
  rintro e w2 ⟨rfl, hb2⟩
  clear cL
  have hv2 : w2.cell? ⟨w1.heap.size, 0, none⟩ = some (.string vl) := (hb2.cell (p := ⟨w1.heap.size, 0, none⟩) (by simp)).trans (by simp [go_sem])
  have hs2 : Spares nowhere w w2 := (hs1.alloc (.cells #[.string vl] 9)).trans' (Below.spares (F := nowhere) hb2 (fun k hk => .inr hk)) (fun b hb => by cases hb)
  have hh : CtlAt w2 g c := HC.out.spares hs2 (fun h => h)
  have HH := Lib.hid hh
  have HS2 := Lib.hid hs2
  have hlt2 : g < w2.heap.size := by have := hs2.size; omega
  clear hb2 hs2 hh hs1
  have fz : w2.frozen? ⟨g, 3, none⟩ = false := Lib.frozen_of_heap HH.out 3
  have f1 := Lib.cell_of_heap HH.out 3
  clear hv2
  change w2.cell? ⟨g, 3, none⟩ = some (.bool c.pub) at f1
  go_wp2
  go_end0
  exact ⟨rfl, by rw [HF.out]; exact ctl_set HH.out 3 _, (HS2.out.mono (F' := fun b => b = g) (fun b h => by cases h)).setCell (p := ⟨g, 3, none⟩) (.inl rfl) _⟩
set_option maxRecDepth 100000 in
set_option maxHeartbeats 4000000 in
theorem say_kind4 (c : Ctl) (p : ByteArray) (g : Nat) (w : World) (hc : CtlAt w g c) (hs : p.size ≤ 1000000000) (hk0 : kindP p = 4) : Calls Tryz.prog 49 #[.pointer (some ⟨g, 0, none⟩), .string p] w (SayPost g (sayF c p) w) := by
  have hk : kindF (lowF (namP p).data.toList) = 4 := hk0
  have hlt : g < w.heap.size := (Array.getElem?_eq_some_iff.1 hc).1
  have HF : Hid (sayF c p = actK 4 (hasP p) (valSec (valP p)) c) := Lib.hid (by unfold sayF; rw [hk0])
  obtain ⟨lo, hlo'⟩ : ∃ lo : ByteArray, (⟨(lowF (namP p).data.toList).toArray⟩ : ByteArray) = lo := ⟨_, rfl⟩
  have hlo : lo.data.toList = lowF (namP p).data.toList := by rw [← hlo']
  have t0 : (lo.toList == [110, 111, 45, 115, 116, 111, 114, 101]) = false := by
    rw [Lib.toList_data, hlo]
    exact kind_not _ 0 (by decide) (by rw [hk]; decide)
  have t1 : (lo.toList == [110, 111, 45, 99, 97, 99, 104, 101]) = false := by
    rw [Lib.toList_data, hlo]
    exact kind_not _ 1 (by decide) (by rw [hk]; decide)
  have t2 : (lo.toList == [112, 114, 105, 118, 97, 116, 101]) = false := by
    rw [Lib.toList_data, hlo]
    exact kind_not _ 2 (by decide) (by rw [hk]; decide)
  have t3 : (lo.toList == [112, 117, 98, 108, 105, 99]) = false := by
    rw [Lib.toList_data, hlo]
    exact kind_not _ 3 (by decide) (by rw [hk]; decide)
  have t4 : (lo.toList == [109, 117, 115, 116, 45, 114, 101, 118, 97, 108, 105, 100, 97, 116, 101]) = true := by
    rw [Lib.toList_data, hlo]
    have := kind_is (lowF (namP p).data.toList) (by rw [hk]; decide)
    simp only [hk] at this
    exact this
  have cL := fun w => NormS.lower_any (namP p) w (by have := namP_size p; omega)
  simp only [hlo'] at cL
  have cC := fun w => cutE_any p w (by omega)
  unfold cutVal at cC
  have hvs := valP_size p
  clear hlo hlo' hk hk0
  obtain ⟨nm, hnm⟩ : ∃ x, namP p = x := ⟨_, rfl⟩
  obtain ⟨vl, hvl⟩ : ∃ x, valP p = x := ⟨_, rfl⟩
  obtain ⟨hs0, hhs⟩ : ∃ x, hasP p = x := ⟨_, rfl⟩
  simp only [hnm, hvl, hhs] at cC cL hvs HF
  clear hnm hvl hhs
  have hmf : ∀ (fn : Fn) (first cap : Array Value) (w : World), (Instr.makeFunc fn first cap).run Tryz.prog w = .ok (.func fn first cap) w := fun _ _ _ _ => rfl
  have HC := Lib.hid hc
  clear hc
  unfold SayPost
  go_enter Tryz.func49, Tryz.ntmps49
  go_wp2_with fail
  refine (cC w).mono ?_
  rintro e w0 ⟨dm, rfl, rfl⟩
  obtain ⟨w1, hw1⟩ : ∃ w1, w.drewN dm = w1 := ⟨_, rfl⟩
  have hs1 : Spares nowhere w w1 := by rw [← hw1]; exact (Spares.refl nowhere w).drewN dm
  rw [hw1]
  clear cC hw1
  go_wp2_with fail
  refine (cL _).mono ?_
  rintro e w2 ⟨rfl, hb2⟩
  clear cL
  have hv2 : w2.cell? ⟨w1.heap.size, 0, none⟩ = some (.string vl) := (hb2.cell (p := ⟨w1.heap.size, 0, none⟩) (by simp)).trans (by simp [go_sem])
  have hs2 : Spares nowhere w w2 := (hs1.alloc (.cells #[.string vl] 9)).trans' (Below.spares (F := nowhere) hb2 (fun k hk => .inr hk)) (fun b hb => by cases hb)
  have hh : CtlAt w2 g c := HC.out.spares hs2 (fun h => h)
  have HH := Lib.hid hh
  have HS2 := Lib.hid hs2
  have hlt2 : g < w2.heap.size := by have := hs2.size; omega
  clear hb2 hs2 hh hs1
  have fz : w2.frozen? ⟨g, 4, none⟩ = false := Lib.frozen_of_heap HH.out 4
  have f1 := Lib.cell_of_heap HH.out 4
  clear hv2
  change w2.cell? ⟨g, 4, none⟩ = some (.bool c.must) at f1
  go_wp2
  go_end0
  exact ⟨rfl, by rw [HF.out]; exact ctl_set HH.out 4 _, (HS2.out.mono (F' := fun b => b = g) (fun b h => by cases h)).setCell (p := ⟨g, 4, none⟩) (.inl rfl) _⟩
set_option maxRecDepth 100000 in
set_option maxHeartbeats 4000000 in
theorem say_kind5 (c : Ctl) (p : ByteArray) (g : Nat) (w : World) (hc : CtlAt w g c) (hs : p.size ≤ 1000000000) (hk0 : kindP p = 5) : Calls Tryz.prog 49 #[.pointer (some ⟨g, 0, none⟩), .string p] w (SayPost g (sayF c p) w) := by
  have hk : kindF (lowF (namP p).data.toList) = 5 := hk0
  have hlt : g < w.heap.size := (Array.getElem?_eq_some_iff.1 hc).1
  have HF : Hid (sayF c p = actK 5 (hasP p) (valSec (valP p)) c) := Lib.hid (by unfold sayF; rw [hk0])
  obtain ⟨lo, hlo'⟩ : ∃ lo : ByteArray, (⟨(lowF (namP p).data.toList).toArray⟩ : ByteArray) = lo := ⟨_, rfl⟩
  have hlo : lo.data.toList = lowF (namP p).data.toList := by rw [← hlo']
  have t0 : (lo.toList == [110, 111, 45, 115, 116, 111, 114, 101]) = false := by
    rw [Lib.toList_data, hlo]
    exact kind_not _ 0 (by decide) (by rw [hk]; decide)
  have t1 : (lo.toList == [110, 111, 45, 99, 97, 99, 104, 101]) = false := by
    rw [Lib.toList_data, hlo]
    exact kind_not _ 1 (by decide) (by rw [hk]; decide)
  have t2 : (lo.toList == [112, 114, 105, 118, 97, 116, 101]) = false := by
    rw [Lib.toList_data, hlo]
    exact kind_not _ 2 (by decide) (by rw [hk]; decide)
  have t3 : (lo.toList == [112, 117, 98, 108, 105, 99]) = false := by
    rw [Lib.toList_data, hlo]
    exact kind_not _ 3 (by decide) (by rw [hk]; decide)
  have t4 : (lo.toList == [109, 117, 115, 116, 45, 114, 101, 118, 97, 108, 105, 100, 97, 116, 101]) = false := by
    rw [Lib.toList_data, hlo]
    exact kind_not _ 4 (by decide) (by rw [hk]; decide)
  have t5 : (lo.toList == [112, 114, 111, 120, 121, 45, 114, 101, 118, 97, 108, 105, 100, 97, 116, 101]) = true := by
    rw [Lib.toList_data, hlo]
    have := kind_is (lowF (namP p).data.toList) (by rw [hk]; decide)
    simp only [hk] at this
    exact this
  have cL := fun w => NormS.lower_any (namP p) w (by have := namP_size p; omega)
  simp only [hlo'] at cL
  have cC := fun w => cutE_any p w (by omega)
  unfold cutVal at cC
  have hvs := valP_size p
  clear hlo hlo' hk hk0
  obtain ⟨nm, hnm⟩ : ∃ x, namP p = x := ⟨_, rfl⟩
  obtain ⟨vl, hvl⟩ : ∃ x, valP p = x := ⟨_, rfl⟩
  obtain ⟨hs0, hhs⟩ : ∃ x, hasP p = x := ⟨_, rfl⟩
  simp only [hnm, hvl, hhs] at cC cL hvs HF
  clear hnm hvl hhs
  have hmf : ∀ (fn : Fn) (first cap : Array Value) (w : World), (Instr.makeFunc fn first cap).run Tryz.prog w = .ok (.func fn first cap) w := fun _ _ _ _ => rfl
  have HC := Lib.hid hc
  clear hc
  unfold SayPost
  go_enter Tryz.func49, Tryz.ntmps49
  go_wp2_with fail
  refine (cC w).mono ?_
  rintro e w0 ⟨dm, rfl, rfl⟩
  obtain ⟨w1, hw1⟩ : ∃ w1, w.drewN dm = w1 := ⟨_, rfl⟩
  have hs1 : Spares nowhere w w1 := by rw [← hw1]; exact (Spares.refl nowhere w).drewN dm
  rw [hw1]
  clear cC hw1
  go_wp2_with fail
  refine (cL _).mono ?_
  rintro e w2 ⟨rfl, hb2⟩
  clear cL
  have hv2 : w2.cell? ⟨w1.heap.size, 0, none⟩ = some (.string vl) := (hb2.cell (p := ⟨w1.heap.size, 0, none⟩) (by simp)).trans (by simp [go_sem])
  have hs2 : Spares nowhere w w2 := (hs1.alloc (.cells #[.string vl] 9)).trans' (Below.spares (F := nowhere) hb2 (fun k hk => .inr hk)) (fun b hb => by cases hb)
  have hh : CtlAt w2 g c := HC.out.spares hs2 (fun h => h)
  have HH := Lib.hid hh
  have HS2 := Lib.hid hs2
  have hlt2 : g < w2.heap.size := by have := hs2.size; omega
  clear hb2 hs2 hh hs1
  have fz : w2.frozen? ⟨g, 5, none⟩ = false := Lib.frozen_of_heap HH.out 5
  have f1 := Lib.cell_of_heap HH.out 5
  clear hv2
  change w2.cell? ⟨g, 5, none⟩ = some (.bool c.prox) at f1
  go_wp2
  go_end0
  exact ⟨rfl, by rw [HF.out]; exact ctl_set HH.out 5 _, (HS2.out.mono (F' := fun b => b = g) (fun b h => by cases h)).setCell (p := ⟨g, 5, none⟩) (.inl rfl) _⟩
set_option maxRecDepth 100000 in
set_option maxHeartbeats 4000000 in
theorem say_kind6 (c : Ctl) (p : ByteArray) (g : Nat) (w : World) (hc : CtlAt w g c) (hs : p.size ≤ 1000000000) (hk0 : kindP p = 6) : Calls Tryz.prog 49 #[.pointer (some ⟨g, 0, none⟩), .string p] w (SayPost g (sayF c p) w) := by
  have hk : kindF (lowF (namP p).data.toList) = 6 := hk0
  have hlt : g < w.heap.size := (Array.getElem?_eq_some_iff.1 hc).1
  have HF : Hid (sayF c p = actK 6 (hasP p) (valSec (valP p)) c) := Lib.hid (by unfold sayF; rw [hk0])
  obtain ⟨lo, hlo'⟩ : ∃ lo : ByteArray, (⟨(lowF (namP p).data.toList).toArray⟩ : ByteArray) = lo := ⟨_, rfl⟩
  have hlo : lo.data.toList = lowF (namP p).data.toList := by rw [← hlo']
  have t0 : (lo.toList == [110, 111, 45, 115, 116, 111, 114, 101]) = false := by
    rw [Lib.toList_data, hlo]
    exact kind_not _ 0 (by decide) (by rw [hk]; decide)
  have t1 : (lo.toList == [110, 111, 45, 99, 97, 99, 104, 101]) = false := by
    rw [Lib.toList_data, hlo]
    exact kind_not _ 1 (by decide) (by rw [hk]; decide)
  have t2 : (lo.toList == [112, 114, 105, 118, 97, 116, 101]) = false := by
    rw [Lib.toList_data, hlo]
    exact kind_not _ 2 (by decide) (by rw [hk]; decide)
  have t3 : (lo.toList == [112, 117, 98, 108, 105, 99]) = false := by
    rw [Lib.toList_data, hlo]
    exact kind_not _ 3 (by decide) (by rw [hk]; decide)
  have t4 : (lo.toList == [109, 117, 115, 116, 45, 114, 101, 118, 97, 108, 105, 100, 97, 116, 101]) = false := by
    rw [Lib.toList_data, hlo]
    exact kind_not _ 4 (by decide) (by rw [hk]; decide)
  have t5 : (lo.toList == [112, 114, 111, 120, 121, 45, 114, 101, 118, 97, 108, 105, 100, 97, 116, 101]) = false := by
    rw [Lib.toList_data, hlo]
    exact kind_not _ 5 (by decide) (by rw [hk]; decide)
  have t6 : (lo.toList == [111, 110, 108, 121, 45, 105, 102, 45, 99, 97, 99, 104, 101, 100]) = true := by
    rw [Lib.toList_data, hlo]
    have := kind_is (lowF (namP p).data.toList) (by rw [hk]; decide)
    simp only [hk] at this
    exact this
  have cL := fun w => NormS.lower_any (namP p) w (by have := namP_size p; omega)
  simp only [hlo'] at cL
  have cC := fun w => cutE_any p w (by omega)
  unfold cutVal at cC
  have hvs := valP_size p
  clear hlo hlo' hk hk0
  obtain ⟨nm, hnm⟩ : ∃ x, namP p = x := ⟨_, rfl⟩
  obtain ⟨vl, hvl⟩ : ∃ x, valP p = x := ⟨_, rfl⟩
  obtain ⟨hs0, hhs⟩ : ∃ x, hasP p = x := ⟨_, rfl⟩
  simp only [hnm, hvl, hhs] at cC cL hvs HF
  clear hnm hvl hhs
  have hmf : ∀ (fn : Fn) (first cap : Array Value) (w : World), (Instr.makeFunc fn first cap).run Tryz.prog w = .ok (.func fn first cap) w := fun _ _ _ _ => rfl
  have HC := Lib.hid hc
  clear hc
  unfold SayPost
  go_enter Tryz.func49, Tryz.ntmps49
  go_wp2_with fail
  refine (cC w).mono ?_
  rintro e w0 ⟨dm, rfl, rfl⟩
  obtain ⟨w1, hw1⟩ : ∃ w1, w.drewN dm = w1 := ⟨_, rfl⟩
  have hs1 : Spares nowhere w w1 := by rw [← hw1]; exact (Spares.refl nowhere w).drewN dm
  rw [hw1]
  clear cC hw1
  go_wp2_with fail
  refine (cL _).mono ?_
  rintro e w2 ⟨rfl, hb2⟩
  clear cL
  have hv2 : w2.cell? ⟨w1.heap.size, 0, none⟩ = some (.string vl) := (hb2.cell (p := ⟨w1.heap.size, 0, none⟩) (by simp)).trans (by simp [go_sem])
  have hs2 : Spares nowhere w w2 := (hs1.alloc (.cells #[.string vl] 9)).trans' (Below.spares (F := nowhere) hb2 (fun k hk => .inr hk)) (fun b hb => by cases hb)
  have hh : CtlAt w2 g c := HC.out.spares hs2 (fun h => h)
  have HH := Lib.hid hh
  have HS2 := Lib.hid hs2
  have hlt2 : g < w2.heap.size := by have := hs2.size; omega
  clear hb2 hs2 hh hs1
  have fz : w2.frozen? ⟨g, 6, none⟩ = false := Lib.frozen_of_heap HH.out 6
  have f1 := Lib.cell_of_heap HH.out 6
  clear hv2
  change w2.cell? ⟨g, 6, none⟩ = some (.bool c.only) at f1
  go_wp2
  go_end0
  exact ⟨rfl, by rw [HF.out]; exact ctl_set HH.out 6 _, (HS2.out.mono (F' := fun b => b = g) (fun b h => by cases h)).setCell (p := ⟨g, 6, none⟩) (.inl rfl) _⟩
set_option maxRecDepth 100000 in
set_option maxHeartbeats 4000000 in
theorem say_kind7 (c : Ctl) (p : ByteArray) (g : Nat) (w : World) (hc : CtlAt w g c) (hs : p.size ≤ 1000000000) (hk0 : kindP p = 7) : Calls Tryz.prog 49 #[.pointer (some ⟨g, 0, none⟩), .string p] w (SayPost g (sayF c p) w) := by
  have hk : kindF (lowF (namP p).data.toList) = 7 := hk0
  have hlt : g < w.heap.size := (Array.getElem?_eq_some_iff.1 hc).1
  have HF : Hid (sayF c p = actK 7 (hasP p) (valSec (valP p)) c) := Lib.hid (by unfold sayF; rw [hk0])
  obtain ⟨lo, hlo'⟩ : ∃ lo : ByteArray, (⟨(lowF (namP p).data.toList).toArray⟩ : ByteArray) = lo := ⟨_, rfl⟩
  have hlo : lo.data.toList = lowF (namP p).data.toList := by rw [← hlo']
  have t0 : (lo.toList == [110, 111, 45, 115, 116, 111, 114, 101]) = false := by
    rw [Lib.toList_data, hlo]
    exact kind_not _ 0 (by decide) (by rw [hk]; decide)
  have t1 : (lo.toList == [110, 111, 45, 99, 97, 99, 104, 101]) = false := by
    rw [Lib.toList_data, hlo]
    exact kind_not _ 1 (by decide) (by rw [hk]; decide)
  have t2 : (lo.toList == [112, 114, 105, 118, 97, 116, 101]) = false := by
    rw [Lib.toList_data, hlo]
    exact kind_not _ 2 (by decide) (by rw [hk]; decide)
  have t3 : (lo.toList == [112, 117, 98, 108, 105, 99]) = false := by
    rw [Lib.toList_data, hlo]
    exact kind_not _ 3 (by decide) (by rw [hk]; decide)
  have t4 : (lo.toList == [109, 117, 115, 116, 45, 114, 101, 118, 97, 108, 105, 100, 97, 116, 101]) = false := by
    rw [Lib.toList_data, hlo]
    exact kind_not _ 4 (by decide) (by rw [hk]; decide)
  have t5 : (lo.toList == [112, 114, 111, 120, 121, 45, 114, 101, 118, 97, 108, 105, 100, 97, 116, 101]) = false := by
    rw [Lib.toList_data, hlo]
    exact kind_not _ 5 (by decide) (by rw [hk]; decide)
  have t6 : (lo.toList == [111, 110, 108, 121, 45, 105, 102, 45, 99, 97, 99, 104, 101, 100]) = false := by
    rw [Lib.toList_data, hlo]
    exact kind_not _ 6 (by decide) (by rw [hk]; decide)
  have t7 : (lo.toList == [109, 97, 120, 45, 97, 103, 101]) = true := by
    rw [Lib.toList_data, hlo]
    have := kind_is (lowF (namP p).data.toList) (by rw [hk]; decide)
    simp only [hk] at this
    exact this
  have cL := fun w => NormS.lower_any (namP p) w (by have := namP_size p; omega)
  simp only [hlo'] at cL
  have cC := fun w => cutE_any p w (by omega)
  unfold cutVal at cC
  have hvs := valP_size p
  clear hlo hlo' hk hk0
  obtain ⟨nm, hnm⟩ : ∃ x, namP p = x := ⟨_, rfl⟩
  obtain ⟨vl, hvl⟩ : ∃ x, valP p = x := ⟨_, rfl⟩
  obtain ⟨hs0, hhs⟩ : ∃ x, hasP p = x := ⟨_, rfl⟩
  simp only [hnm, hvl, hhs] at cC cL hvs HF
  clear hnm hvl hhs
  have hmf : ∀ (fn : Fn) (first cap : Array Value) (w : World), (Instr.makeFunc fn first cap).run Tryz.prog w = .ok (.func fn first cap) w := fun _ _ _ _ => rfl
  have HC := Lib.hid hc
  clear hc
  unfold SayPost
  go_enter Tryz.func49, Tryz.ntmps49
  go_wp2_with fail
  refine (cC w).mono ?_
  rintro e w0 ⟨dm, rfl, rfl⟩
  obtain ⟨w1, hw1⟩ : ∃ w1, w.drewN dm = w1 := ⟨_, rfl⟩
  have hs1 : Spares nowhere w w1 := by rw [← hw1]; exact (Spares.refl nowhere w).drewN dm
  rw [hw1]
  clear cC hw1
  go_wp2_with fail
  refine (cL _).mono ?_
  rintro e w2 ⟨rfl, hb2⟩
  clear cL
  have hv2 : w2.cell? ⟨w1.heap.size, 0, none⟩ = some (.string vl) := (hb2.cell (p := ⟨w1.heap.size, 0, none⟩) (by simp)).trans (by simp [go_sem])
  have hs2 : Spares nowhere w w2 := (hs1.alloc (.cells #[.string vl] 9)).trans' (Below.spares (F := nowhere) hb2 (fun k hk => .inr hk)) (fun b hb => by cases hb)
  have hh : CtlAt w2 g c := HC.out.spares hs2 (fun h => h)
  have HH := Lib.hid hh
  have HS2 := Lib.hid hs2
  have hlt2 : g < w2.heap.size := by have := hs2.size; omega
  clear hb2 hs2 hh hs1
  go_wp2_with fail
  refine (least_any vl w1.heap.size g 8 _ _ c.maxA w2 hv2 HH.out rfl (by omega)).mono ?_
  rintro e w3 ⟨rfl, h3, hs3⟩
  have H3 := Lib.hid h3
  have HS3 := Lib.hid hs3
  clear h3 hs3 hv2
  go_wp2
  go_end0
  exact ⟨rfl, by rw [HF.out]; exact H3.out, (HS2.out.mono (fun b h => by cases h)).trans HS3.out⟩
set_option maxRecDepth 100000 in
set_option maxHeartbeats 4000000 in
theorem say_kind8 (c : Ctl) (p : ByteArray) (g : Nat) (w : World) (hc : CtlAt w g c) (hs : p.size ≤ 1000000000) (hk0 : kindP p = 8) : Calls Tryz.prog 49 #[.pointer (some ⟨g, 0, none⟩), .string p] w (SayPost g (sayF c p) w) := by
  have hk : kindF (lowF (namP p).data.toList) = 8 := hk0
  have hlt : g < w.heap.size := (Array.getElem?_eq_some_iff.1 hc).1
  have HF : Hid (sayF c p = actK 8 (hasP p) (valSec (valP p)) c) := Lib.hid (by unfold sayF; rw [hk0])
  obtain ⟨lo, hlo'⟩ : ∃ lo : ByteArray, (⟨(lowF (namP p).data.toList).toArray⟩ : ByteArray) = lo := ⟨_, rfl⟩
  have hlo : lo.data.toList = lowF (namP p).data.toList := by rw [← hlo']
  have t0 : (lo.toList == [110, 111, 45, 115, 116, 111, 114, 101]) = false := by
    rw [Lib.toList_data, hlo]
    exact kind_not _ 0 (by decide) (by rw [hk]; decide)
  have t1 : (lo.toList == [110, 111, 45, 99, 97, 99, 104, 101]) = false := by
    rw [Lib.toList_data, hlo]
    exact kind_not _ 1 (by decide) (by rw [hk]; decide)
  have t2 : (lo.toList == [112, 114, 105, 118, 97, 116, 101]) = false := by
    rw [Lib.toList_data, hlo]
    exact kind_not _ 2 (by decide) (by rw [hk]; decide)
  have t3 : (lo.toList == [112, 117, 98, 108, 105, 99]) = false := by
    rw [Lib.toList_data, hlo]
    exact kind_not _ 3 (by decide) (by rw [hk]; decide)
  have t4 : (lo.toList == [109, 117, 115, 116, 45, 114, 101, 118, 97, 108, 105, 100, 97, 116, 101]) = false := by
    rw [Lib.toList_data, hlo]
    exact kind_not _ 4 (by decide) (by rw [hk]; decide)
  have t5 : (lo.toList == [112, 114, 111, 120, 121, 45, 114, 101, 118, 97, 108, 105, 100, 97, 116, 101]) = false := by
    rw [Lib.toList_data, hlo]
    exact kind_not _ 5 (by decide) (by rw [hk]; decide)
  have t6 : (lo.toList == [111, 110, 108, 121, 45, 105, 102, 45, 99, 97, 99, 104, 101, 100]) = false := by
    rw [Lib.toList_data, hlo]
    exact kind_not _ 6 (by decide) (by rw [hk]; decide)
  have t7 : (lo.toList == [109, 97, 120, 45, 97, 103, 101]) = false := by
    rw [Lib.toList_data, hlo]
    exact kind_not _ 7 (by decide) (by rw [hk]; decide)
  have t8 : (lo.toList == [115, 45, 109, 97, 120, 97, 103, 101]) = true := by
    rw [Lib.toList_data, hlo]
    have := kind_is (lowF (namP p).data.toList) (by rw [hk]; decide)
    simp only [hk] at this
    exact this
  have cL := fun w => NormS.lower_any (namP p) w (by have := namP_size p; omega)
  simp only [hlo'] at cL
  have cC := fun w => cutE_any p w (by omega)
  unfold cutVal at cC
  have hvs := valP_size p
  clear hlo hlo' hk hk0
  obtain ⟨nm, hnm⟩ : ∃ x, namP p = x := ⟨_, rfl⟩
  obtain ⟨vl, hvl⟩ : ∃ x, valP p = x := ⟨_, rfl⟩
  obtain ⟨hs0, hhs⟩ : ∃ x, hasP p = x := ⟨_, rfl⟩
  simp only [hnm, hvl, hhs] at cC cL hvs HF
  clear hnm hvl hhs
  have hmf : ∀ (fn : Fn) (first cap : Array Value) (w : World), (Instr.makeFunc fn first cap).run Tryz.prog w = .ok (.func fn first cap) w := fun _ _ _ _ => rfl
  have HC := Lib.hid hc
  clear hc
  unfold SayPost
  go_enter Tryz.func49, Tryz.ntmps49
  go_wp2_with fail
  refine (cC w).mono ?_
  rintro e w0 ⟨dm, rfl, rfl⟩
  obtain ⟨w1, hw1⟩ : ∃ w1, w.drewN dm = w1 := ⟨_, rfl⟩
  have hs1 : Spares nowhere w w1 := by rw [← hw1]; exact (Spares.refl nowhere w).drewN dm
  rw [hw1]
  clear cC hw1
  go_wp2_with fail
  refine (cL _).mono ?_
  rintro e w2 ⟨rfl, hb2⟩
  clear cL
  have hv2 : w2.cell? ⟨w1.heap.size, 0, none⟩ = some (.string vl) := (hb2.cell (p := ⟨w1.heap.size, 0, none⟩) (by simp)).trans (by simp [go_sem])
  have hs2 : Spares nowhere w w2 := (hs1.alloc (.cells #[.string vl] 9)).trans' (Below.spares (F := nowhere) hb2 (fun k hk => .inr hk)) (fun b hb => by cases hb)
  have hh : CtlAt w2 g c := HC.out.spares hs2 (fun h => h)
  have HH := Lib.hid hh
  have HS2 := Lib.hid hs2
  have hlt2 : g < w2.heap.size := by have := hs2.size; omega
  clear hb2 hs2 hh hs1
  go_wp2_with fail
  refine (least_any vl w1.heap.size g 9 _ _ c.sMax w2 hv2 HH.out rfl (by omega)).mono ?_
  rintro e w3 ⟨rfl, h3, hs3⟩
  have H3 := Lib.hid h3
  have HS3 := Lib.hid hs3
  clear h3 hs3 hv2
  go_wp2
  go_end0
  exact ⟨rfl, by rw [HF.out]; exact H3.out, (HS2.out.mono (fun b h => by cases h)).trans HS3.out⟩
set_option maxRecDepth 100000 in
set_option maxHeartbeats 4000000 in
theorem say_kind9 (c : Ctl) (p : ByteArray) (g : Nat) (w : World) (hc : CtlAt w g c) (hs : p.size ≤ 1000000000) (hk0 : kindP p = 9) : Calls Tryz.prog 49 #[.pointer (some ⟨g, 0, none⟩), .string p] w (SayPost g (sayF c p) w) := by
  have hk : kindF (lowF (namP p).data.toList) = 9 := hk0
  have hlt : g < w.heap.size := (Array.getElem?_eq_some_iff.1 hc).1
  have HF : Hid (sayF c p = actK 9 (hasP p) (valSec (valP p)) c) := Lib.hid (by unfold sayF; rw [hk0])
  obtain ⟨lo, hlo'⟩ : ∃ lo : ByteArray, (⟨(lowF (namP p).data.toList).toArray⟩ : ByteArray) = lo := ⟨_, rfl⟩
  have hlo : lo.data.toList = lowF (namP p).data.toList := by rw [← hlo']
  have t0 : (lo.toList == [110, 111, 45, 115, 116, 111, 114, 101]) = false := by
    rw [Lib.toList_data, hlo]
    exact kind_not _ 0 (by decide) (by rw [hk]; decide)
  have t1 : (lo.toList == [110, 111, 45, 99, 97, 99, 104, 101]) = false := by
    rw [Lib.toList_data, hlo]
    exact kind_not _ 1 (by decide) (by rw [hk]; decide)
  have t2 : (lo.toList == [112, 114, 105, 118, 97, 116, 101]) = false := by
    rw [Lib.toList_data, hlo]
    exact kind_not _ 2 (by decide) (by rw [hk]; decide)
  have t3 : (lo.toList == [112, 117, 98, 108, 105, 99]) = false := by
    rw [Lib.toList_data, hlo]
    exact kind_not _ 3 (by decide) (by rw [hk]; decide)
  have t4 : (lo.toList == [109, 117, 115, 116, 45, 114, 101, 118, 97, 108, 105, 100, 97, 116, 101]) = false := by
    rw [Lib.toList_data, hlo]
    exact kind_not _ 4 (by decide) (by rw [hk]; decide)
  have t5 : (lo.toList == [112, 114, 111, 120, 121, 45, 114, 101, 118, 97, 108, 105, 100, 97, 116, 101]) = false := by
    rw [Lib.toList_data, hlo]
    exact kind_not _ 5 (by decide) (by rw [hk]; decide)
  have t6 : (lo.toList == [111, 110, 108, 121, 45, 105, 102, 45, 99, 97, 99, 104, 101, 100]) = false := by
    rw [Lib.toList_data, hlo]
    exact kind_not _ 6 (by decide) (by rw [hk]; decide)
  have t7 : (lo.toList == [109, 97, 120, 45, 97, 103, 101]) = false := by
    rw [Lib.toList_data, hlo]
    exact kind_not _ 7 (by decide) (by rw [hk]; decide)
  have t8 : (lo.toList == [115, 45, 109, 97, 120, 97, 103, 101]) = false := by
    rw [Lib.toList_data, hlo]
    exact kind_not _ 8 (by decide) (by rw [hk]; decide)
  have t9 : (lo.toList == [109, 105, 110, 45, 102, 114, 101, 115, 104]) = true := by
    rw [Lib.toList_data, hlo]
    have := kind_is (lowF (namP p).data.toList) (by rw [hk]; decide)
    simp only [hk] at this
    exact this
  have cL := fun w => NormS.lower_any (namP p) w (by have := namP_size p; omega)
  simp only [hlo'] at cL
  have cC := fun w => cutE_any p w (by omega)
  unfold cutVal at cC
  have hvs := valP_size p
  clear hlo hlo' hk hk0
  obtain ⟨nm, hnm⟩ : ∃ x, namP p = x := ⟨_, rfl⟩
  obtain ⟨vl, hvl⟩ : ∃ x, valP p = x := ⟨_, rfl⟩
  obtain ⟨hs0, hhs⟩ : ∃ x, hasP p = x := ⟨_, rfl⟩
  simp only [hnm, hvl, hhs] at cC cL hvs HF
  clear hnm hvl hhs
  have hmf : ∀ (fn : Fn) (first cap : Array Value) (w : World), (Instr.makeFunc fn first cap).run Tryz.prog w = .ok (.func fn first cap) w := fun _ _ _ _ => rfl
  have HC := Lib.hid hc
  clear hc
  unfold SayPost
  go_enter Tryz.func49, Tryz.ntmps49
  go_wp2_with fail
  refine (cC w).mono ?_
  rintro e w0 ⟨dm, rfl, rfl⟩
  obtain ⟨w1, hw1⟩ : ∃ w1, w.drewN dm = w1 := ⟨_, rfl⟩
  have hs1 : Spares nowhere w w1 := by rw [← hw1]; exact (Spares.refl nowhere w).drewN dm
  rw [hw1]
  clear cC hw1
  go_wp2_with fail
  refine (cL _).mono ?_
  rintro e w2 ⟨rfl, hb2⟩
  clear cL
  have hv2 : w2.cell? ⟨w1.heap.size, 0, none⟩ = some (.string vl) := (hb2.cell (p := ⟨w1.heap.size, 0, none⟩) (by simp)).trans (by simp [go_sem])
  have hs2 : Spares nowhere w w2 := (hs1.alloc (.cells #[.string vl] 9)).trans' (Below.spares (F := nowhere) hb2 (fun k hk => .inr hk)) (fun b hb => by cases hb)
  have hh : CtlAt w2 g c := HC.out.spares hs2 (fun h => h)
  have HH := Lib.hid hh
  have HS2 := Lib.hid hs2
  have hlt2 : g < w2.heap.size := by have := hs2.size; omega
  clear hb2 hs2 hh hs1
  go_wp2_with fail
  refine (least_any vl w1.heap.size g 10 _ _ c.minF w2 hv2 HH.out rfl (by omega)).mono ?_
  rintro e w3 ⟨rfl, h3, hs3⟩
  have H3 := Lib.hid h3
  have HS3 := Lib.hid hs3
  clear h3 hs3 hv2
  go_wp2
  go_end0
  exact ⟨rfl, by rw [HF.out]; exact H3.out, (HS2.out.mono (fun b h => by cases h)).trans HS3.out⟩
set_option maxRecDepth 100000 in
set_option maxHeartbeats 4000000 in
theorem say_kind10 (c : Ctl) (p : ByteArray) (g : Nat) (w : World) (hc : CtlAt w g c) (hs : p.size ≤ 1000000000) (hk0 : kindP p = 10) : Calls Tryz.prog 49 #[.pointer (some ⟨g, 0, none⟩), .string p] w (SayPost g (sayF c p) w) := by
  have hk : kindF (lowF (namP p).data.toList) = 10 := hk0
  have hlt : g < w.heap.size := (Array.getElem?_eq_some_iff.1 hc).1
  have HF : Hid (sayF c p = actK 10 (hasP p) (valSec (valP p)) c) := Lib.hid (by unfold sayF; rw [hk0])
  obtain ⟨lo, hlo'⟩ : ∃ lo : ByteArray, (⟨(lowF (namP p).data.toList).toArray⟩ : ByteArray) = lo := ⟨_, rfl⟩
  have hlo : lo.data.toList = lowF (namP p).data.toList := by rw [← hlo']
  have t0 : (lo.toList == [110, 111, 45, 115, 116, 111, 114, 101]) = false := by
    rw [Lib.toList_data, hlo]
    exact kind_not _ 0 (by decide) (by rw [hk]; decide)
  have t1 : (lo.toList == [110, 111, 45, 99, 97, 99, 104, 101]) = false := by
    rw [Lib.toList_data, hlo]
    exact kind_not _ 1 (by decide) (by rw [hk]; decide)
  have t2 : (lo.toList == [112, 114, 105, 118, 97, 116, 101]) = false := by
    rw [Lib.toList_data, hlo]
    exact kind_not _ 2 (by decide) (by rw [hk]; decide)
  have t3 : (lo.toList == [112, 117, 98, 108, 105, 99]) = false := by
    rw [Lib.toList_data, hlo]
    exact kind_not _ 3 (by decide) (by rw [hk]; decide)
  have t4 : (lo.toList == [109, 117, 115, 116, 45, 114, 101, 118, 97, 108, 105, 100, 97, 116, 101]) = false := by
    rw [Lib.toList_data, hlo]
    exact kind_not _ 4 (by decide) (by rw [hk]; decide)
  have t5 : (lo.toList == [112, 114, 111, 120, 121, 45, 114, 101, 118, 97, 108, 105, 100, 97, 116, 101]) = false := by
    rw [Lib.toList_data, hlo]
    exact kind_not _ 5 (by decide) (by rw [hk]; decide)
  have t6 : (lo.toList == [111, 110, 108, 121, 45, 105, 102, 45, 99, 97, 99, 104, 101, 100]) = false := by
    rw [Lib.toList_data, hlo]
    exact kind_not _ 6 (by decide) (by rw [hk]; decide)
  have t7 : (lo.toList == [109, 97, 120, 45, 97, 103, 101]) = false := by
    rw [Lib.toList_data, hlo]
    exact kind_not _ 7 (by decide) (by rw [hk]; decide)
  have t8 : (lo.toList == [115, 45, 109, 97, 120, 97, 103, 101]) = false := by
    rw [Lib.toList_data, hlo]
    exact kind_not _ 8 (by decide) (by rw [hk]; decide)
  have t9 : (lo.toList == [109, 105, 110, 45, 102, 114, 101, 115, 104]) = false := by
    rw [Lib.toList_data, hlo]
    exact kind_not _ 9 (by decide) (by rw [hk]; decide)
  have t10 : (lo.toList == [109, 97, 120, 45, 115, 116, 97, 108, 101]) = true := by
    rw [Lib.toList_data, hlo]
    have := kind_is (lowF (namP p).data.toList) (by rw [hk]; decide)
    simp only [hk] at this
    exact this
  have cL := fun w => NormS.lower_any (namP p) w (by have := namP_size p; omega)
  simp only [hlo'] at cL
  have cC := fun w => cutE_any p w (by omega)
  unfold cutVal at cC
  have hvs := valP_size p
  clear hlo hlo' hk hk0
  obtain ⟨nm, hnm⟩ : ∃ x, namP p = x := ⟨_, rfl⟩
  obtain ⟨vl, hvl⟩ : ∃ x, valP p = x := ⟨_, rfl⟩
  obtain ⟨hs0, hhs⟩ : ∃ x, hasP p = x := ⟨_, rfl⟩
  simp only [hnm, hvl, hhs] at cC cL hvs HF
  clear hnm hvl hhs
  have hmf : ∀ (fn : Fn) (first cap : Array Value) (w : World), (Instr.makeFunc fn first cap).run Tryz.prog w = .ok (.func fn first cap) w := fun _ _ _ _ => rfl
  have HC := Lib.hid hc
  clear hc
  unfold SayPost
  go_enter Tryz.func49, Tryz.ntmps49
  go_wp2_with fail
  refine (cC w).mono ?_
  rintro e w0 ⟨dm, rfl, rfl⟩
  obtain ⟨w1, hw1⟩ : ∃ w1, w.drewN dm = w1 := ⟨_, rfl⟩
  have hs1 : Spares nowhere w w1 := by rw [← hw1]; exact (Spares.refl nowhere w).drewN dm
  rw [hw1]
  clear cC hw1
  go_wp2_with fail
  refine (cL _).mono ?_
  rintro e w2 ⟨rfl, hb2⟩
  clear cL
  have hv2 : w2.cell? ⟨w1.heap.size, 0, none⟩ = some (.string vl) := (hb2.cell (p := ⟨w1.heap.size, 0, none⟩) (by simp)).trans (by simp [go_sem])
  have hs2 : Spares nowhere w w2 := (hs1.alloc (.cells #[.string vl] 9)).trans' (Below.spares (F := nowhere) hb2 (fun k hk => .inr hk)) (fun b hb => by cases hb)
  have hh : CtlAt w2 g c := HC.out.spares hs2 (fun h => h)
  have HH := Lib.hid hh
  have HS2 := Lib.hid hs2
  have hlt2 : g < w2.heap.size := by have := hs2.size; omega
  clear hb2 hs2 hh hs1
  cases hs0 with
  | false =>
    have fz : w2.frozen? ⟨g, 7, none⟩ = false := Lib.frozen_of_heap HH.out 7
    have f1 := Lib.cell_of_heap HH.out 7
    clear hv2
    change w2.cell? ⟨g, 7, none⟩ = some (.bool c.anyStale) at f1
    go_wp2
    go_end0
    exact ⟨rfl, by rw [HF.out]; exact ctl_set HH.out 7 _, (HS2.out.mono (F' := fun b => b = g) (fun b h => by cases h)).setCell (p := ⟨g, 7, none⟩) (.inl rfl) _⟩
  | true =>
    go_wp2_with fail
    refine (least_any vl w1.heap.size g 11 _ _ c.maxS w2 hv2 HH.out rfl (by omega)).mono ?_
    rintro e w3 ⟨rfl, h3, hs3⟩
    have H3 := Lib.hid h3
    have HS3 := Lib.hid hs3
    clear h3 hs3 hv2
    go_wp2
    go_end0
    exact ⟨rfl, by rw [HF.out]; exact H3.out, (HS2.out.mono (fun b h => by cases h)).trans HS3.out⟩
set_option maxRecDepth 100000 in
set_option maxHeartbeats 4000000 in
theorem say_kind11 (c : Ctl) (p : ByteArray) (g : Nat) (w : World) (hc : CtlAt w g c) (hs : p.size ≤ 1000000000) (hk0 : kindP p = 11) : Calls Tryz.prog 49 #[.pointer (some ⟨g, 0, none⟩), .string p] w (SayPost g (sayF c p) w) := by
  have hk : kindF (lowF (namP p).data.toList) = 11 := hk0
  have hlt : g < w.heap.size := (Array.getElem?_eq_some_iff.1 hc).1
  have HF : Hid (sayF c p = actK 11 (hasP p) (valSec (valP p)) c) := Lib.hid (by unfold sayF; rw [hk0])
  obtain ⟨lo, hlo'⟩ : ∃ lo : ByteArray, (⟨(lowF (namP p).data.toList).toArray⟩ : ByteArray) = lo := ⟨_, rfl⟩
  have hlo : lo.data.toList = lowF (namP p).data.toList := by rw [← hlo']
  have t0 : (lo.toList == [110, 111, 45, 115, 116, 111, 114, 101]) = false := by
    rw [Lib.toList_data, hlo]
    exact kind_not _ 0 (by decide) (by rw [hk]; decide)
  have t1 : (lo.toList == [110, 111, 45, 99, 97, 99, 104, 101]) = false := by
    rw [Lib.toList_data, hlo]
    exact kind_not _ 1 (by decide) (by rw [hk]; decide)
  have t2 : (lo.toList == [112, 114, 105, 118, 97, 116, 101]) = false := by
    rw [Lib.toList_data, hlo]
    exact kind_not _ 2 (by decide) (by rw [hk]; decide)
  have t3 : (lo.toList == [112, 117, 98, 108, 105, 99]) = false := by
    rw [Lib.toList_data, hlo]
    exact kind_not _ 3 (by decide) (by rw [hk]; decide)
  have t4 : (lo.toList == [109, 117, 115, 116, 45, 114, 101, 118, 97, 108, 105, 100, 97, 116, 101]) = false := by
    rw [Lib.toList_data, hlo]
    exact kind_not _ 4 (by decide) (by rw [hk]; decide)
  have t5 : (lo.toList == [112, 114, 111, 120, 121, 45, 114, 101, 118, 97, 108, 105, 100, 97, 116, 101]) = false := by
    rw [Lib.toList_data, hlo]
    exact kind_not _ 5 (by decide) (by rw [hk]; decide)
  have t6 : (lo.toList == [111, 110, 108, 121, 45, 105, 102, 45, 99, 97, 99, 104, 101, 100]) = false := by
    rw [Lib.toList_data, hlo]
    exact kind_not _ 6 (by decide) (by rw [hk]; decide)
  have t7 : (lo.toList == [109, 97, 120, 45, 97, 103, 101]) = false := by
    rw [Lib.toList_data, hlo]
    exact kind_not _ 7 (by decide) (by rw [hk]; decide)
  have t8 : (lo.toList == [115, 45, 109, 97, 120, 97, 103, 101]) = false := by
    rw [Lib.toList_data, hlo]
    exact kind_not _ 8 (by decide) (by rw [hk]; decide)
  have t9 : (lo.toList == [109, 105, 110, 45, 102, 114, 101, 115, 104]) = false := by
    rw [Lib.toList_data, hlo]
    exact kind_not _ 9 (by decide) (by rw [hk]; decide)
  have t10 : (lo.toList == [109, 97, 120, 45, 115, 116, 97, 108, 101]) = false := by
    rw [Lib.toList_data, hlo]
    exact kind_not _ 10 (by decide) (by rw [hk]; decide)
  have cL := fun w => NormS.lower_any (namP p) w (by have := namP_size p; omega)
  simp only [hlo'] at cL
  have cC := fun w => cutE_any p w (by omega)
  unfold cutVal at cC
  have hvs := valP_size p
  clear hlo hlo' hk hk0
  obtain ⟨nm, hnm⟩ : ∃ x, namP p = x := ⟨_, rfl⟩
  obtain ⟨vl, hvl⟩ : ∃ x, valP p = x := ⟨_, rfl⟩
  obtain ⟨hs0, hhs⟩ : ∃ x, hasP p = x := ⟨_, rfl⟩
  simp only [hnm, hvl, hhs] at cC cL hvs HF
  clear hnm hvl hhs
  have hmf : ∀ (fn : Fn) (first cap : Array Value) (w : World), (Instr.makeFunc fn first cap).run Tryz.prog w = .ok (.func fn first cap) w := fun _ _ _ _ => rfl
  have HC := Lib.hid hc
  clear hc
  unfold SayPost
  go_enter Tryz.func49, Tryz.ntmps49
  go_wp2_with fail
  refine (cC w).mono ?_
  rintro e w0 ⟨dm, rfl, rfl⟩
  obtain ⟨w1, hw1⟩ : ∃ w1, w.drewN dm = w1 := ⟨_, rfl⟩
  have hs1 : Spares nowhere w w1 := by rw [← hw1]; exact (Spares.refl nowhere w).drewN dm
  rw [hw1]
  clear cC hw1
  go_wp2_with fail
  refine (cL _).mono ?_
  rintro e w2 ⟨rfl, hb2⟩
  clear cL
  have hv2 : w2.cell? ⟨w1.heap.size, 0, none⟩ = some (.string vl) := (hb2.cell (p := ⟨w1.heap.size, 0, none⟩) (by simp)).trans (by simp [go_sem])
  have hs2 : Spares nowhere w w2 := (hs1.alloc (.cells #[.string vl] 9)).trans' (Below.spares (F := nowhere) hb2 (fun k hk => .inr hk)) (fun b hb => by cases hb)
  have hh : CtlAt w2 g c := HC.out.spares hs2 (fun h => h)
  have HH := Lib.hid hh
  have HS2 := Lib.hid hs2
  have hlt2 : g < w2.heap.size := by have := hs2.size; omega
  clear hb2 hs2 hh hs1
  clear hv2
  go_wp2
  go_end0
  exact ⟨rfl, by rw [HF.out]; exact HH.out, HS2.out.mono (fun b h => by cases h)⟩
theorem say_any (c : Ctl) (p : ByteArray) (g : Nat) (w : World) (hc : CtlAt w g c) (hs : p.size ≤ 1000000000) : Calls Tryz.prog 49 #[.pointer (some ⟨g, 0, none⟩), .string p] w (SayPost g (sayF c p) w) := by
  have hle : kindP p ≤ 11 := kind_le _
  rcases (show kindP p = 0 ∨ kindP p = 1 ∨ kindP p = 2 ∨ kindP p = 3 ∨ kindP p = 4 ∨ kindP p = 5 ∨ kindP p = 6 ∨ kindP p = 7 ∨ kindP p = 8 ∨ kindP p = 9 ∨ kindP p = 10 ∨ kindP p = 11 from by omega) with h | h | h | h | h | h | h | h | h | h | h | h
  · exact say_kind0 c p g w hc hs h
  · exact say_kind1 c p g w hc hs h
  · exact say_kind2 c p g w hc hs h
  · exact say_kind3 c p g w hc hs h
  · exact say_kind4 c p g w hc hs h
  · exact say_kind5 c p g w hc hs h
  · exact say_kind6 c p g w hc hs h
  · exact say_kind7 c p g w hc hs h
  · exact say_kind8 c p g w hc hs h
  · exact say_kind9 c p g w hc hs h
  · exact say_kind10 c p g w hc hs h
  · exact say_kind11 c p g w hc hs h
end Go.Proofs.YtaimhfnddolilaaGreatDoor.CtrlS
