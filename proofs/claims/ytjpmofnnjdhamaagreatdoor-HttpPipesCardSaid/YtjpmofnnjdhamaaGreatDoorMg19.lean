/-
  strings.ContainsAny of CR and LF, in any text.
  A message's head cut into lines.
  http.splitHead: its walk.
-/
import Derived.Laws.Runes
import Derived.Laws.RangeAny
import Derived.Lib.FieldsP
import Derived.Lib.SpaceUEq
import Derived.Lib.MapLaws
import Derived.Lib.TrimU
import Derived.Lib.OthersKept
import Derived.Deep.LoopGhost
import Derived.WalkMore
import Derived.Deep.QuietTactic
import Derived.Lib.SlBytesRow
import Derived.Deep.RegionLaw
import Derived.Test.YtjpmofnnjdhamaaGreatDoorMg15
namespace Go.Proofs.YtjpmofnnjdhamaaGreatDoor
open Go.RowKit HeadMath NormMath NormS HeadS ChunkMath HttpMath

theorem valid_eq {r : Nat} (h : Lib.validRune (r : Int) = true) : Utf8.valid (r : Int) = true := by
  unfold Lib.validRune at h
  unfold Utf8.valid
  simp at h ⊢
  omega
set_option maxHeartbeats 4000000 in
set_option maxRecDepth 100000 in
/-- Neither CR nor LF is a rune beyond ASCII. -/
theorem runeHigh_any (r : Nat) (w : World) (hr : 128 ≤ r) (hr2 : r ≤ 2147483647) : Calls Tryz.prog 120 #[.string ⟨#[13, 10]⟩, .int .i32 r] w fun e w' => e = .returned (.int .i64 (-1)) ∧ Spares nowhere w w' := by
  have d0 : decide ((0 : Int) ≤ (r : Int)) = true := by simp
  have d1 : decide ((r : Int) < 128) = false := by simp; omega
  by_cases he : r = 65533
  · subst he
    have q0 : ((⟨#[13, 10]⟩ : ByteArray)[0]'(by decide)).toNat < 128 := by decide
    have q1 : ((⟨#[13, 10]⟩ : ByteArray)[1]'(by decide)).toNat < 128 := by decide
    go_enter Tryz.func120, Tryz.ntmps120
    go_wp2
    go_loopg [5, 6] 2 (fun g _ _ wx => ∃ i : Nat, i + g = 2 ∧ wx = w.iter ⟨#[13, 10]⟩ i)
    case atStart => exact ⟨0, rfl, rfl⟩
    case round =>
      obtain ⟨i, hig, rfl⟩ := hrel
      match gk, hig with
      | 0, hig =>
        obtain rfl : i = 2 := by omega
        have hnx := run_next_end (P := Tryz.prog) w ⟨#[13, 10]⟩ 2
        go_wp2
        go_ret
        exact ⟨rfl, (Spares.refl _ _).alloc _⟩
      | 1, hig =>
        obtain rfl : i = 1 := by omega
        have hnx := fun ty => run_next_ascii (P := Tryz.prog) w ⟨#[13, 10]⟩ 1 ty (by decide) q1
        go_wp2
        go_roundg 0
        case measure => omega
        case rel => exact ⟨2, rfl, rfl⟩
      | 2, hig =>
        obtain rfl : i = 0 := by omega
        have hnx := fun ty => run_next_ascii (P := Tryz.prog) w ⟨#[13, 10]⟩ 0 ty (by decide) q0
        go_wp2
        go_roundg 1
        case measure => omega
        case rel => exact ⟨1, rfl, rfl⟩
      | g + 3, hig => omega
  · have d2 : ((r : Int) == 65533) = false := beq_eq_false_iff_ne.2 (by omega)
    have cV := Tryz.utf8_ValidRune (r : Int) w
    cases hv : Lib.validRune (r : Int) with
    | false =>
      rw [hv] at cV
      clear hv
      go_enter Tryz.func120, Tryz.ntmps120
      go_wp2_with fail
      refine cV.mono ?_
      rintro e w1 ⟨rfl, hw⟩
      replace hw := hw.symm
      subst hw
      go_wp2
      go_ret
      exact ⟨rfl, Spares.refl _ _⟩
    | true =>
      rw [hv] at cV
      obtain ⟨f1, f2, f3⟩ := encode_facts (r : Int) (valid_eq hv) (by omega)
      obtain ⟨rs, hrs⟩ : ∃ rs, Utf8.encode (r : Int) = rs := ⟨_, rfl⟩
      have hcv : ∀ w : World, (convert 21 9 (.int .i32 r)).run Tryz.prog w = .ok (.string rs) w := fun w => by rw [← hrs]; exact run_convert_int_string w _ _ _ _ (by kernel_rfl) (by kernel_rfl)
      rw [hrs] at f1 f2 f3
      clear hv hrs
      have l8 := f3 (by omega)
      obtain ⟨x, hx⟩ : ∃ x : UInt8, rs[rs.size - 1]'(by omega) = x := ⟨_, rfl⟩
      rw [hx] at l8
      by_cases h2 : rs.size = 2
      · have hx1 : rs[1]'(by omega) = x := by rw [← hx]; congr 1; omega
        have n1 : (((({ data := #[13, 10] } : ByteArray)[1]'(by decide)).toNat : Int) != (x.toNat : Int)) = true := by
          show ((10 : Int) != (x.toNat : Int)) = true
          unfold bne
          rw [Bool.not_eq_true', beq_eq_false_iff_ne]
          omega
        have w2 : IntKind.i64.wrap 2 = 2 := by decide
        have cI : ∀ w, Calls Tryz.prog 71 #[.string ByteArray.empty, .int .u8 x.toNat] w fun e w' => e = .returned (.int .i64 (-1)) ∧ w' = w := fun w => by
          have := Tryz.strings_IndexByte ByteArray.empty (x.toNat : Int) w
          exact this
        have e2 : (⟨#[13, 10]⟩ : ByteArray).size = 2 := rfl
        have s1 : (rs.size : Int) = 2 := by omega
        clear f1 f2 f3 hx
        go_enter Tryz.func120, Tryz.ntmps120
        go_wp2_with fail
        refine cV.mono ?_
        rintro e w1 ⟨rfl, hw⟩
        replace hw := hw.symm
        subst hw
        go_wp2
        go_step3
        go_wp2
        go_loopw [9] (fun i wr => i = .int .i64 1 ∧ wr = w) (fun _ _ => 0)
        case atStart => exact ⟨rfl, rfl⟩
        case round =>
          obtain ⟨rfl, rfl⟩ := hrel
          have l1 : (1 : Int) < (rs.size : Int) := by omega
          go_wp2
          go_step3
          go_wp2
          go_region
          go_wp2
          obtain ⟨v, hv⟩ : ∃ v, wr.drew = v := ⟨_, rfl⟩
          have HV := Lib.hid hv
          rw [hv]
          clear hv
          go_quiet ((go_at_call 71; exact Calls.quiet_of_same (cI _)))
          go_wp2
          rw [Exit.noGoto_ret]
          go_wp2
          rw [Exit.noGoto_ret]
          go_ret
          exact ⟨rfl, by rw [← HV.out]; exact (Spares.refl _ _).drew.drewN _⟩
      · have s1 : ¬ ((rs.size : Int) - 1 < 2) := by omega
        have e2 : (⟨#[13, 10]⟩ : ByteArray).size = 2 := rfl
        clear f3 hx l8
        go_enter Tryz.func120, Tryz.ntmps120
        go_wp2_with fail
        refine cV.mono ?_
        rintro e w1 ⟨rfl, hw⟩
        replace hw := hw.symm
        subst hw
        go_wp2
        go_step3
        go_wp2
        go_loopw [9] (fun i wr => i = .int .i64 ((rs.size : Int) - 1) ∧ wr = w) (fun _ _ => 0)
        case atStart => exact ⟨rfl, rfl⟩
        case round =>
          obtain ⟨rfl, rfl⟩ := hrel
          go_wp2
          rw [Exit.noGoto_ret]
          go_ret
          exact ⟨rfl, Spares.refl _ _⟩
/-- The bytes of a rune beyond ASCII. -/
theorem rune_high (s : ByteArray) (pos : Nat) (hp : pos < s.size) (hb : 128 ≤ (s[pos]'hp).toNat) : pos + (Utf8.decode s pos).2 ≤ s.size ∧ ∀ j (h : pos + j < s.size), j < (Utf8.decode s pos).2 → 128 ≤ (s[pos + j]'h).toNat := by
  have hle := Lib.decodeN_le_n' (s.size - pos) (s.get! pos).toNat (s.get! (pos + 1)).toNat (s.get! (pos + 2)).toNat (s.get! (pos + 3)).toNat (by omega)
  have hc := Lib.decodeN_conts (s.size - pos) (s.get! pos).toNat (s.get! (pos + 1)).toNat (s.get! (pos + 2)).toNat (s.get! (pos + 3)).toNat
  have hsh := Lib.decodeN_shape (s.size - pos) (s.get! pos).toNat (s.get! (pos + 1)).toNat (s.get! (pos + 2)).toNat (s.get! (pos + 3)).toNat
  have hg : ∀ j (h : pos + j < s.size), (s.get! (pos + j)) = s[pos + j]'h := fun j h => by
    have := get_at s (pos + j) h
    simpa using this
  have hsm : (Utf8.decode s pos).2 ≤ 4 := by
    rw [Lib.decode_at]
    rcases hsh with ⟨_, h2⟩ | ⟨_, _, _, _, h2⟩ | ⟨_, _, _, _, _, _, h2⟩ | ⟨_, _, _, _, _, _, _, h2⟩ | h2 <;> rw [h2] <;> simp
  rw [← Lib.decode_at] at hle hc
  refine ⟨by omega, fun j h hj => ?_⟩
  rw [← hg j h]
  obtain ⟨c1, c2, c3, c4⟩ := hc
  match j, hj with
  | 0, _ => rw [hg 0 h]; exact hb
  | 1, hj => have := (c1 (by omega)).1; omega
  | 2, hj => have := (c2 (by omega)).1; omega
  | 3, hj => have := (c3 (by omega)).1; omega
  | j + 4, hj => omega
theorem none_high {s : ByteArray} {i n : Nat} (h : Lib.NoAny s.data.toList [13, 10] i) (hb : ∀ j (h : i + j < s.size), j < n → 128 ≤ (s[i + j]'h).toNat) : Lib.NoAny s.data.toList [13, 10] (i + n) := by
  intro j b hj hb2
  by_cases hlt : j < i
  · exact h j b hlt hb2
  · obtain ⟨hl, hb3⟩ := List.getElem?_eq_some_iff.1 hb2
    have hl2 : j < s.size := by rwa [size_list] at hl
    have := hb (j - i) (by omega) (by omega)
    have e : s[i + (j - i)]'(by omega) = b := by
      rw [← hb3]
      show s[i + (j - i)]'_ = s[j]'hl2
      congr 1; omega
    rw [e] at this
    simp
    constructor <;> (intro e2; subst e2; exact absurd this (by decide))
theorem any_bare (l : Bs) : decide (0 ≤ Lib.indexAny l [13, 10]) = !bareL l := by
  induction l with
  | nil => rfl
  | cons c l ih =>
    have hge := Lib.indexAny_ge [13, 10] l
    unfold Lib.indexAny
    by_cases h : ([13, 10] : Bs).contains c = true
    · rw [if_pos h]
      have : bareC c = false := by
        unfold bareC
        simp at h
        rcases h with rfl | rfl <;> decide
      unfold bareL
      rw [List.all_cons, this]; rfl
    · rw [if_neg h]
      have hc : bareC c = true := by
        unfold bareC
        simp at h
        simp [h.1, h.2]
      unfold bareL at ih ⊢
      rw [List.all_cons, hc, Bool.true_and, ← ih]
      by_cases hm : (Lib.indexAny l [13, 10] == -1) = true
      · rw [if_pos hm, beq_iff_eq.1 hm]
      · rw [if_neg hm]
        have : Lib.indexAny l [13, 10] ≠ -1 := fun e => hm (beq_iff_eq.2 e)
        rw [decide_eq_true (by omega), decide_eq_true (by omega)]
theorem iterAt_old {w wr : World} {k p : Nat} {s : ByteArray} {i : Nat} (hk : w.heap.size ≤ k) (hit : wr.heap[k]? = some (.stringIter s i)) (hs : Spares nowhere w wr) : (wr.iterAt k s p).heap[k]? = some (.stringIter s p) ∧ Spares nowhere w (wr.iterAt k s p) := by
  refine ⟨Lib.iterAt_heap wr k s i p hit, hs.trans' (F' := fun b => b = k) ⟨rfl, rfl, rfl, by simp [World.iterAt], fun b hb hn => ?_⟩ (fun b hb => .inr (by omega))⟩
  have : k ≠ b := fun e => hn e.symm
  simp [World.iterAt, this]
set_option maxHeartbeats 4000000 in
set_option maxRecDepth 100000 in
theorem indexAny_short (s : ByteArray) (w : World) (h8 : s.size ≤ 8) : Calls Tryz.prog 95 #[.string s, .string ⟨#[13, 10]⟩] w fun e w' => e = .returned (.int .i64 (Lib.indexAny s.data.toList [13, 10])) ∧ Spares nowhere w w' := by
  have h8z : decide ((8 : Int) < (s.size : Int)) = false := decide_eq_false (by omega)
  have e2 : ({ data := #[13, 10] } : ByteArray).size = 2 := rfl
  go_enter Tryz.func95, Tryz.ntmps95
  go_wp2_with (go_at_call 121; refine (Tryz.strings_shouldUseASCIISet _ _).mono ?_; rintro e w' ⟨rfl, hw⟩; rw [hw, h8z])
  go_loopg [9, 10] s.size (fun g _ _ wx => ∃ i : Nat, i + g = s.size ∧ wx.heap[w.heap.size]? = some (.stringIter s i) ∧ Hid (Lib.NoAny s.data.toList [13, 10] i) ∧ Hid (Spares nowhere w wx))
  case atStart => exact ⟨0, by omega, heap_alloc_new w _, Lib.hid (Lib.NoAny.zero _ _), Lib.hid ((Spares.refl _ _).alloc _)⟩
  case round =>
    obtain ⟨i, hig, hit, HN, HS⟩ := hrel
    cases gk with
    | zero =>
      obtain rfl : i = s.size := by omega
      have hnx := fun ty => Lib.run_next_end_at (P := Tryz.prog) wr w.heap.size s s.size ty hit (by omega)
      go_wp2
      go_ret
      exact ⟨by rw [Lib.indexAny_none (by rw [size_list]; exact HN.out)]; rfl, HS.out⟩
    | succ g =>
      have hi : i < s.size := by omega
      obtain ⟨x, hx⟩ : ∃ x : UInt8, s[i]'hi = x := ⟨_, rfl⟩
      have Hx : Hid (s.data.toList[i]? = some x) := Lib.hid (by rw [← hx]; exact Lib.data_getElem? s i hi)
      by_cases ha : x.toNat < 128
      · have hnx := fun ty => Lib.run_next_ascii_at (P := Tryz.prog) wr w.heap.size s i ty hit hi (by rw [hx]; exact ha)
        rw [hx] at hnx
        have HI := Lib.hid (iterAt_old (k := w.heap.size) (p := i + 1) (Nat.le_refl _) hit HS.out)
        have hcon := Lib.contains_iff_indexByte [13, 10] x
        have hback : ((x.toNat : Int)).toNat.toUInt8 = x := by simp
        have cR := fun w => Tryz.strings_IndexRune_ascii ⟨#[13, 10]⟩ (x.toNat : Int) w (by omega) (by omega)
        rw [hback] at cR
        clear hx hback
        cases hin : ([13, 10] : Bs).contains x
        · rw [hin] at hcon
          have hlt : ¬ ((0 : Int) ≤ Lib.indexByte [13, 10] x) := of_decide_eq_false hcon.symm
          have HN1 := Lib.hid (HN.out.succ Hx.out hin)
          clear hcon hin
          go_wp2_with fail
          refine (cR _).mono ?_
          rintro e w1 ⟨rfl, hw⟩
          rw [hw]
          clear cR
          go_wp2
          go_roundg g
          case measure => omega
          case rel => exact ⟨i + 1, by omega, HI.out.1, HN1, Lib.hid HI.out.2⟩
        · rw [hin] at hcon
          have hge : (0 : Int) ≤ Lib.indexByte [13, 10] x := of_decide_eq_true hcon.symm
          have HT := Lib.hid (Lib.indexAny_hit HN.out Hx.out hin)
          clear hcon hin
          go_wp2_with fail
          refine (cR _).mono ?_
          rintro e w1 ⟨rfl, hw⟩
          rw [hw]
          clear cR
          go_wp2
          go_ret
          exact ⟨by rw [HT.out]; rfl, HI.out.2⟩
      · have hnx := fun ty => Lib.run_next_any_at (P := Tryz.prog) wr w.heap.size s i ty hit hi
        have hdh := decode_high s i hi (by rw [hx]; omega)
        have hdl := decode_le s i
        have hrh := rune_high s i hi (by rw [hx]; omega)
        obtain ⟨r, n, hd⟩ : ∃ r n, Utf8.decode s i = (r, n) := ⟨_, _, rfl⟩
        rw [hd] at hnx hdh hdl hrh
        simp only at hnx hdh hdl hrh
        have HI := Lib.hid (iterAt_old (k := w.heap.size) (p := i + n) (Nat.le_refl _) hit HS.out)
        have HN1 := Lib.hid (none_high HN.out hrh.2)
        have hrn := hrh.1
        have cR := fun w => runeHigh_any r w hdh.1 hdl
        clear hx hd hrh
        go_wp2_with fail
        refine (cR _).mono ?_
        rintro e w1 ⟨rfl, hs1⟩
        have HI1 := Lib.hid (hs1.heap HI.out.1 (fun h => h))
        have HS1 := Lib.hid (HI.out.2.trans hs1)
        clear cR hs1 hnx
        go_wp2
        go_roundg (s.size - (i + n))
        case measure => omega
        case rel => exact ⟨i + n, by omega, HI1.out, HN1, HS1⟩
theorem indexAny_line (s : ByteArray) (w : World) (hs : s.size ≤ 1000000) : Calls Tryz.prog 95 #[.string s, .string ⟨#[13, 10]⟩] w fun e w' => e = .returned (.int .i64 (Lib.indexAny s.data.toList [13, 10])) ∧ Spares nowhere w w' := by
  by_cases h8 : s.size ≤ 8
  · exact indexAny_short s w h8
  · have hv : ∀ w, (zeroValue 146).run Tryz.prog w = .ok (.agg (Array.replicate 256 (.bool false))) w := (zero_of_info (n := 256) (by kernel_rfl)).1
    refine (Tryz.strings_IndexAny_long hv s ⟨#[13, 10]⟩ w (by decide) (by omega) (by omega) (by decide) ?_).mono ?_
    · intro j b hb
      have : b ∈ ([13, 10] : Bs) := List.mem_of_getElem? hb
      simp at this
      rcases this with rfl | rfl <;> decide
    · rintro e w' ⟨rfl, rfl⟩
      exact ⟨rfl, ((Spares.refl _ _).alloc _).alloc _⟩
theorem containsAny_any (s : ByteArray) (w : World) (hs : s.size ≤ 1000000) : Calls Tryz.prog 67 #[.string s, .string ⟨#[13, 10]⟩] w (HasPost (!bareL s.data.toList) w) := by
  have c := indexAny_line s w hs
  have hB := any_bare s.data.toList
  obtain ⟨k, hk⟩ : ∃ k, Lib.indexAny s.data.toList [13, 10] = k := ⟨_, rfl⟩
  rw [hk] at c hB
  have HB := Lib.hid hB
  clear hk hB
  go_enter Tryz.func67, Tryz.ntmps67
  go_wp2_with fail
  refine c.mono ?_
  rintro e w1 ⟨rfl, hs1⟩
  have HS := Lib.hid hs1
  clear hs1 c
  go_wp2
  go_ret
  exact ⟨by rw [← HB.out]; rfl, HS.out⟩
end Go.Proofs.YtjpmofnnjdhamaaGreatDoor
namespace Go.Proofs.YtjpmofnnjdhamaaGreatDoor
open Go.RowKit HeadMath NormMath NormS HeadS ChunkMath HttpMath

def MaxL (w : World) : Prop := ∃ m, w.cell? ⟨0, 0, none⟩ = some (.int .i64 m)
theorem MaxL.lt {w : World} (h : MaxL w) : 0 < w.heap.size := by
  obtain ⟨m, hm⟩ := h
  rcases Nat.lt_or_ge 0 w.heap.size with h | h
  · exact h
  · simp [World.cell?, Array.getElem?_eq_none h] at hm
theorem MaxL.spares {w w' : World} (h : MaxL w) (hs : Spares nowhere w w') : MaxL w' := by
  have hl := h.lt
  obtain ⟨m, hm⟩ := h
  exact ⟨m, (hs.cell (p := ⟨0, 0, none⟩) hl (fun h => h)).trans hm⟩
def numsB (l : Bs) : List Int := l.map fun b => (b.toNat : Int)
theorem numsB_bytes (l : Bs) : Lib.bytesOf (numsB l) = l := by
  unfold Lib.bytesOf numsB
  rw [List.map_map]
  have : ((fun n : Int => UInt8.ofNat n.toNat) ∘ fun b : UInt8 => (b.toNat : Int)) = id := by funext b; simp
  rw [this, List.map_id]
theorem numsB_range (l : Bs) : ∀ x ∈ numsB l, 0 ≤ x ∧ x < 256 := by
  intro x hx
  obtain ⟨b, _, rfl⟩ := List.mem_map.1 hx
  have := b.toNat_lt
  omega
def litH : Array Value := #[.int .u8 13, .int .u8 10, .int .u8 13, .int .u8 10]
/-- Where the head's end is. -/
theorem index_end (l : Bs) (a : Option Addr) (c n : Nat) (w : World) (fr : Nat × Nat) (hn : n = l.length) (hat : BytesAt w a l) (hcap : l.length ≤ c) (hnil : a = none → c = 0) (hz : l.length ≤ 1000000) (hM : MaxL w) :
    Calls Tryz.prog 66 #[.slice a n c, .slice (some ⟨w.heap.size, 0, none⟩) 4 4] (w.alloc (.cells litH 5 fr)) fun e w' => e = .returned (.int .i64 (Lib.index l end4)) ∧ Spares nowhere w w' := by
  subst hn
  have hs := (Spares.refl nowhere w).alloc (.cells litH 5 fr)
  cases a with
  | none =>
    obtain rfl := hnil rfl
    obtain rfl : l = [] := List.eq_nil_of_length_eq_zero (by omega)
    refine (Tryz.bytes_Index_nil (some ⟨w.heap.size, 0, none⟩) 4 4 _ (by omega) (fun h => by cases h)).mono ?_
    rintro e w' ⟨rfl, rfl⟩
    exact ⟨rfl, hs⟩
  | some ad =>
    obtain ⟨m, hm⟩ := hM.spares hs
    have hat2 := hat.spares' hs (fun _ _ _ _ h => h)
    have hc1 : ∀ i, i < l.length → (w.alloc (.cells litH 5 fr)).cell? (ad.add i) = some (.int .u8 ((numsB l).getD i 0)) := by
      intro i hi
      obtain ⟨x, o, e, hc⟩ := hat2 i hi
      injection e with e
      subst e
      have : (⟨x, o, none⟩ : Addr).add i = ⟨x, o + i, none⟩ := by simp [Addr.add]
      rw [this, hc]
      simp [numsB, hi]
    have hc2 : ∀ i, i < 4 → (w.alloc (.cells litH 5 fr)).cell? ((⟨w.heap.size, 0, none⟩ : Addr).add i) = some (.int .u8 ((numsB end4).getD i 0)) := by
      intro i hi
      have : (⟨w.heap.size, 0, none⟩ : Addr).add i = ⟨w.heap.size, i, none⟩ := by unfold Addr.add; split <;> simp_all
      rw [this, Lib.cell_of_heap (heap_alloc_new w _)]
      match i, hi with
      | 0, _ => rfl
      | 1, _ => rfl
      | 2, _ => rfl
      | 3, _ => rfl
    refine (Tryz.bytes_Index_at ad ⟨w.heap.size, 0, none⟩ l.length c 4 4 (numsB l) (numsB end4) m _ (by simp [numsB]) rfl (numsB_range l) (numsB_range end4) hc1 hc2 hcap (by omega) (by omega) hm).mono ?_
    rintro e w' ⟨rfl, q, rfl⟩
    rw [numsB_bytes, numsB_bytes]
    exact ⟨rfl, hs.drewN q⟩
def SplitPost (a : Option Addr) (r : Except Nat (List Bs × Bs)) (w : World) (e : Ending) (w' : World) : Prop := match r with
  | .error n => FellH n w e w'
  | .ok (ls, rest) => ∃ g x o o' c', w.heap.size ≤ g ∧ a = some ⟨x, o, none⟩ ∧ e = .returned (.tuple #[.slice (some ⟨g, 0, none⟩) ls.length ls.length, .slice (some ⟨x, o', none⟩) rest.length c']) ∧ StrsIn w'.heap.size w' (some ⟨g, 0, none⟩) (ls.map ba) ∧ BytesAt w' (some ⟨x, o', none⟩) rest ∧ rest.length ≤ c' ∧ Spares nowhere w w'
/-- The pieces of a text. -/
theorem split_line (s : ByteArray) (w : World) (hs : s.size ≤ 1000000) (hM : MaxL w) (L : List Bs) (hL : cuts crlf2 s.data.toList = L) :
    Calls Tryz.prog 40 #[.string s, .string ⟨#[13, 10]⟩] w fun e w' => e = .returned (.slice (some ⟨w.heap.size, 0, none⟩) L.length L.length) ∧ w' = w.alloc (.cells ((L.map ba).map Value.string).toArray 9) := by
  subst hL
  obtain ⟨m, hm⟩ := hM
  refine (Tryz.strings_Split s ⟨#[13, 10]⟩ m w (by omega) hm (by decide)).mono ?_
  rintro e w' ⟨rfl, rfl⟩
  have e1 := split_cuts s ⟨#[13, 10]⟩ (by decide)
  have e2 : Lib.countB s ⟨#[13, 10]⟩ + 1 = (cuts crlf2 s.data.toList).length := by
    have := Lib.splitB_all ⟨#[13, 10]⟩ (by decide) 0 _ s rfl
    rw [e1, List.length_map] at this
    exact this.symm
  rw [e1, e2]
  exact ⟨rfl, rfl⟩
theorem split_blank (s : ByteArray) (w : World) (hs : s.size ≤ 1000000) (hM : MaxL w) (L : List Bs) (hL : cuts [32] s.data.toList = L) :
    Calls Tryz.prog 40 #[.string s, .string ⟨#[32]⟩] w fun e w' => e = .returned (.slice (some ⟨w.heap.size, 0, none⟩) L.length L.length) ∧ w' = w.alloc (.cells ((L.map ba).map Value.string).toArray 9) := by
  subst hL
  obtain ⟨m, hm⟩ := hM
  refine (Tryz.strings_Split s ⟨#[32]⟩ m w (by omega) hm (by decide)).mono ?_
  rintro e w' ⟨rfl, rfl⟩
  have e1 := split_cuts s ⟨#[32]⟩ (by decide)
  have e2 : Lib.countB s ⟨#[32]⟩ + 1 = (cuts [32] s.data.toList).length := by
    have := Lib.splitB_all ⟨#[32]⟩ (by decide) 0 _ s rfl
    rw [e1, List.length_map] at this
    exact this.symm
  rw [e1, e2]
  exact ⟨rfl, rfl⟩
theorem strsIn_new (w : World) (L : List Bs) : StrsIn (w.alloc (.cells ((L.map ba).map Value.string).toArray 9)).heap.size (w.alloc (.cells ((L.map ba).map Value.string).toArray 9)) (some ⟨w.heap.size, 0, none⟩) (L.map ba) := by
  intro j hj
  refine ⟨w.heap.size, 0, rfl, by simp, ?_⟩
  rw [Lib.cell_of_heap (heap_alloc_new w _)]
  simp at hj
  simp [hj]
theorem StrsIn.quiet {w w' : World} {B B' : Nat} {a : Option Addr} {ls : List ByteArray} (h : StrsIn B w a ls) (hB : B ≤ w.heap.size) (hs : Spares nowhere w w') (hB' : B ≤ B') : StrsIn B' w' a ls := by
  intro j hj
  obtain ⟨b, off, e, hb, hc⟩ := h j hj
  exact ⟨b, off, e, by omega, (hs.cell (p := ⟨b, off + j, none⟩) (by show b < _; omega) (fun h => h)).trans hc⟩
end Go.Proofs.YtjpmofnnjdhamaaGreatDoor
namespace Go.Proofs.YtjpmofnnjdhamaaGreatDoor
open Go.RowKit HeadMath NormMath NormS HeadS ChunkMath HttpMath

theorem litH_eq : (#[.int .u8 13, .int .u8 10, .int .u8 13, .int .u8 10] : Array Value) = litH := rfl
set_option maxRecDepth 100000 in
set_option maxHeartbeats 4000000 in
theorem head_any (b : Bs) (a : Option Addr) (c n : Nat) (w : World) (hn : n = b.length) (hat : BytesAt w a b) (hcap : b.length ≤ c) (hnil : a = none → c = 0) (hz : b.length ≤ 1000000) (hM : MaxL w) :
    Calls Tryz.prog 39 #[.slice a n c] w (SplitPost a (headF b) w) := by
  have hcs := fun (W : World) (C : Array Value) (n c : Nat) => Lib.run_convert_bytes_const (P := Tryz.prog) W 23 5 C n c Tryz.underlying23 Tryz.underlying5
  obtain ⟨m, hm⟩ : ∃ m, min n 8192 = m := ⟨_, rfl⟩
  have hmn : (b.take 8192).length = m := by rw [List.length_take, ← hn, Nat.min_comm, hm]
  have q1 : min (n : Int) 8192 = (m : Int) := by omega
  have q2 : m ≤ n := by omega
  have q3 : n ≤ c := by omega
  have hatT : BytesAt w a (b.take 8192) := by
    intro j hj
    have hj2 : j < b.length := by rw [List.length_take] at hj; omega
    obtain ⟨x, o, e, hc⟩ := hat j hj2
    exact ⟨x, o, e, by rw [hc, List.getElem_take]⟩
  have cI := fun fr => index_end (b.take 8192) a c m w fr hmn.symm hatT (by omega) hnil (by omega) hM
  obtain ⟨R, hR⟩ : ∃ R, headF b = R := ⟨_, rfl⟩
  rw [hR]
  have HR := Lib.hid hR
  obtain ⟨e, he⟩ : ∃ e, Lib.index (b.take 8192) end4 = e := ⟨_, rfl⟩
  rw [he] at cI
  have HE : Hid (headAt b = e) := Lib.hid he
  have HAT := Lib.hid hat
  have HN := Lib.hid hn
  have HM := Lib.hid hM
  have HNIL := Lib.hid hnil
  have hz2 : n ≤ 1000000 := by omega
  unfold litH at cI
  clear hR he hat hatT hmn hn hM hnil hz hcap hm
  have c1 : ∀ k w, Calls Tryz.prog 41 #[.bool true, .int .i64 k] w fun e w' => e = .returned (.tuple #[]) ∧ w' = w := demand_yes
  have c2 : ∀ (k : Nat) w, Calls Tryz.prog 41 #[.bool false, .int .i64 k] w fun e w' => e = FaultH k ∧ w' = w := demand_no
  unfold FaultH at c2
  by_cases hneg : e < 0
  · have g1 : decide ((0 : Int) ≤ e) = false := by simp; omega
    by_cases hl : n < 8192
    · have HF : Hid (R = .error 92) := Lib.hid (by rw [← HR.out, headF_none (by rw [HE.out]; exact hneg), if_pos (by rw [← HN.out]; exact hl)])
      have g2 : decide ((n : Int) < 8192) = true := by simp; omega
      go_enter Tryz.func39, Tryz.ntmps39
      go_wp2_with fail
      refine (cI _).mono ?_
      rintro _ w1 ⟨rfl, hs1⟩
      clear cI
      go_wp2_with fail
      refine (c1 93 _).mono ?_
      rintro _ w2 ⟨rfl, hw⟩
      replace hw := hw.symm
      subst hw
      go_wp2_with fail
      refine (c2 92 _).mono ?_
      rintro _ w2 ⟨rfl, hw⟩
      replace hw := hw.symm
      subst hw
      go_wp2
      rw [HF.out]
      exact ⟨rfl, rfl, hs1⟩
    · have HF : Hid (R = .error 93) := Lib.hid (by rw [← HR.out, headF_none (by rw [HE.out]; exact hneg), if_neg (by rw [← HN.out]; exact hl)])
      have g2 : decide ((n : Int) < 8192) = false := by simp; omega
      go_enter Tryz.func39, Tryz.ntmps39
      go_wp2_with fail
      refine (cI _).mono ?_
      rintro _ w1 ⟨rfl, hs1⟩
      clear cI
      go_wp2_with fail
      refine (c2 93 _).mono ?_
      rintro _ w2 ⟨rfl, hw⟩
      replace hw := hw.symm
      subst hw
      go_wp2
      rw [HF.out]
      exact ⟨rfl, rfl, hs1⟩
  · obtain ⟨k, rfl⟩ : ∃ k : Nat, e = k := ⟨e.toNat, by omega⟩
    have hroom := headAt_room HE.out
    rw [← HN.out] at hroom
    obtain ⟨x, o, ha, _⟩ := HAT.out 0 (by rw [← HN.out]; omega)
    subst ha
    obtain ⟨T, hT⟩ : ∃ T, b.take k = T := ⟨_, rfl⟩
    have hTl : T.length = k := by rw [← hT, List.length_take, ← HN.out]; omega
    have hTat : BytesAt w (some ⟨x, o, none⟩) T := by
      intro j hj
      obtain ⟨x, o, e, hc⟩ := HAT.out j (by rw [← HN.out]; omega)
      refine ⟨x, o, e, ?_⟩
      rw [hc]
      subst hT
      rw [List.getElem_take]
    obtain ⟨L, hL⟩ : ∃ L, cuts crlf2 T = L := ⟨_, rfl⟩
    have hL1 : L.length ≤ 1000001 := by have := cuts_len crlf2 (by decide) _ T (Nat.le_refl _); rw [hL] at this; omega
    have hL2 : ∀ l ∈ L, l.length ≤ 1000000 := by
      intro l hl
      have := cuts_mem crlf2 (by decide) _ T (Nat.le_refl _) l (by rw [hL]; exact hl)
      omega
    have HL : Hid (cuts crlf2 (b.take k) = L) := Lib.hid (by rw [hT, hL])
    have HTL := Lib.hid hTl
    have HTAT := Lib.hid hTat
    have hcv : ∀ w1, Spares nowhere w w1 → (convert 23 9 (.slice (some ⟨x, o, none⟩) k c)).run Tryz.prog w1 = .ok (.string (ba T)) w1 := fun w1 hs => by
      have := conv_bytes (hTat.spares' hs (fun _ _ _ _ h => h)) c
      rw [hTl] at this
      exact this
    have HCV := Lib.hid hcv
    have cS := fun w1 (hs : Spares nowhere w w1) => split_line (ba T) w1 (by rw [ba_size]; omega) (HM.out.spares hs) L hL
    have HCS := Lib.hid cS
    have g1 : decide ((0 : Int) ≤ (k : Int)) = true := by simp
    have g3 : (k : Int) ≤ (c : Int) := by omega
    clear hT hTl hTat hL hcv cS HTAT
    have HL1 := Lib.hid hL1
    have HL2 := Lib.hid hL2
    obtain ⟨l, hl⟩ : ∃ l, L.length = l := ⟨_, rfl⟩
    have HLL := Lib.hid hl
    rw [hl] at HCS
    rw [hl] at hL1
    clear hl hL2
    go_enter Tryz.func39, Tryz.ntmps39
    go_wp2_with fail
    refine (cI _).mono ?_
    rintro _ w1 ⟨rfl, hs1⟩
    clear cI
    have q4 := HCV.out w1 hs1
    go_wp2_with fail
    refine (c1 93 _).mono ?_
    rintro _ w2 ⟨rfl, hw⟩
    replace hw := hw.symm
    subst hw
    go_wp2_with fail
    refine (c1 92 _).mono ?_
    rintro _ w2 ⟨rfl, hw⟩
    replace hw := hw.symm
    subst hw
    go_wp2_with fail
    refine (HCS.out _ hs1).mono ?_
    rintro _ w2 ⟨rfl, hw2⟩
    have hs2 : Spares nowhere w w2 := by rw [hw2]; exact hs1.alloc _
    have HI2 : Hid (StrsIn w2.heap.size w2 (some ⟨w1.heap.size, 0, none⟩) (L.map ba)) := Lib.hid (by rw [hw2]; exact strsIn_new w1 L)
    obtain ⟨g, hg⟩ : ∃ g, w1.heap.size = g := ⟨_, rfl⟩
    have HG : Hid (w.heap.size ≤ g) := Lib.hid (by rw [← hg]; exact hs1.size)
    rw [hg] at HI2 ⊢
    clear hw2 hg q4 hs1 HCV HCS
    go_wp2
    go_loopw [36] (fun i wr => ∃ j : Nat, j ≤ l ∧ i = .int .i64 j ∧ Hid (∀ i (h : i < L.length), i < j → bareL L[i] = true) ∧ Hid (Spares nowhere w2 wr)) (fun i _ => l - (intOf i).toNat)
    case atStart => exact ⟨0, Nat.zero_le _, rfl, Lib.hid (fun i _ h => absurd h (Nat.not_lt_zero _)), Lib.hid (Spares.refl _ _)⟩
    case round =>
      obtain ⟨j, hj, rfl, HA, HS⟩ := hrel
      by_cases hlt : j < l
      · have hjL : j < L.length := by rw [HLL.out]; exact hlt
        have x0 : wr.cell? ⟨g, j, none⟩ = some (.string (ba L[j])) := by
          obtain ⟨q, o2, e, hq, hc⟩ := HI2.out j (by rw [List.length_map]; exact hjL)
          injection e with e
          injection e with e1 e2
          subst e1; subst e2
          rw [Nat.zero_add] at hc
          rw [HS.out.cell (p := ⟨g, j, none⟩) hq (fun h => h), hc, List.getElem_map]
        have cA := fun w => containsAny_any (ba L[j]) w (by rw [ba_size]; exact HL2.out _ (List.getElem_mem _))
        rw [ba_data] at cA
        obtain ⟨y, hy⟩ : ∃ y, ba L[j] = y := ⟨_, rfl⟩
        rw [hy] at x0 cA
        unfold HasPost at cA
        clear hy
        have i1 : (j : Int) < (l : Int) := by omega
        cases hb : bareL L[j] with
        | false =>
          rw [hb] at cA
          have HF : Hid (R = .error 90) := Lib.hid (by
            rw [← HR.out]
            refine headF_bad HE.out ?_
            rw [HL.out, List.all_eq_false]
            exact ⟨L[j], List.getElem_mem _, by rw [hb]; decide⟩)
          clear hb
          go_wp2_with fail
          refine (cA _).mono ?_
          rintro _ w3 ⟨rfl, hs3⟩
          go_wp2_with fail
          refine (c2 90 _).mono ?_
          rintro _ w4 ⟨rfl, hw⟩
          replace hw := hw.symm
          subst hw
          go_wp2
          rw [HF.out]
          exact ⟨rfl, rfl, hs2.trans (HS.out.trans hs3)⟩
        | true =>
          rw [hb] at cA
          have HA1 : Hid (∀ i (h : i < L.length), i < j + 1 → bareL L[i] = true) := Lib.hid (fun i h hi => by
            by_cases e : i = j
            · subst e; exact hb
            · exact HA.out i h (by omega))
          clear hb
          go_wp2_with fail
          refine (cA _).mono ?_
          rintro _ w3 ⟨rfl, hs3⟩
          have HS3 := Lib.hid (HS.out.trans hs3)
          clear hs3 cA x0
          go_wp2_with fail
          refine (c1 90 _).mono ?_
          rintro _ w4 ⟨rfl, hw⟩
          replace hw := hw.symm
          subst hw
          go_wp2
          go_roundw
          case rel => exact ⟨j + 1, by omega, by go_num, HA1, HS3⟩
          case measure => simp [intOf]; omega
      · have HF : Hid (R = .ok (L, b.drop (k + 4))) := Lib.hid (by
          rw [← HR.out]
          have := headF_ok HE.out (by
            rw [HL.out]
            refine all_bare _ (fun y hy => ?_)
            obtain ⟨i, hi, rfl⟩ := List.getElem_of_mem hy
            exact HA.out i hi (by rw [HLL.out] at hi; omega))
          rw [HL.out] at this
          exact this)
        have j1 : IntKind.i64.wrap ((k : Int) + 4) = (k : Int) + 4 := wrap_small _ (by omega) (by omega)
        have j2 : (k : Int) + 4 ≤ (n : Int) := by omega
        have i1 : ¬ (j : Int) < (l : Int) := by omega
        go_wp2
        go_region
        go_wp2
        · go_ret2
          rw [HF.out]
          have hs3 : Spares nowhere w wr.drew := (hs2.trans HS.out).drew
          refine ⟨g, x, o, o, 0, HG.out, rfl, ?_, StrsIn.quiet HI2.out (Nat.le_refl _) HS.out.drew (HS.out.drew.size), ?_, ?_, hs3⟩
          · rw [HLL.out, List.length_drop, ← HN.out]
            rfl
          · rw [List.drop_of_length_le (by rw [← HN.out]; omega)]
            exact bytesAt_nil _ _
          · rw [List.length_drop, ← HN.out]; omega
        · go_ret2
          rw [HF.out]
          have hs3 : Spares nowhere w wr.drew := (hs2.trans HS.out).drew
          refine ⟨g, x, o, o + (k + 4), c - (k + 4), HG.out, rfl, ?_, StrsIn.quiet HI2.out (Nat.le_refl _) HS.out.drew (HS.out.drew.size), ?_, ?_, hs3⟩
          · rw [HLL.out, List.length_drop, ← HN.out]
            rfl
          · have := bytesAt_drop (HAT.out.spares' hs3 (fun _ _ _ _ h => h)) (k + 4) (b.length)
            rwa [List.take_of_length_le (by rw [List.length_drop]; omega)] at this
          · rw [List.length_drop, ← HN.out]; omega
end Go.Proofs.YtjpmofnnjdhamaaGreatDoor
