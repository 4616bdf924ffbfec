/-
  glob's rows: the row behind one more part is the one that the mathematics says.
-/
import Derived.Deep.RegionHeld3
import Derived.Deep.RegionWith
import Derived.Deep.QuietTactic
import Derived.BigQuiet
import Derived.Test.YthdolhfaiofogaaMg17
namespace Go.Proofs.Ythdolhfaiofogaa
open Go.RowKit GlobMath

def NextPost (w : World) (n : Nat) (h : Nat → Bool) (e : Ending) (w' : World) : Prop :=
  ∃ g' : Nat, e = .returned (.slice (some ⟨g', 0, none⟩) n n) ∧ Blk w' g' 4 (rowCells n h) ∧ Below w.heap.size w w'

theorem start_row {n : Nat} {A : Nat → Bool} {b : Bool} (h : b = A 0) : rowCells n (fun k => if k = 0 then b else false) = rowCells n (fun m => decide (m ≤ 0) && A m) := by
  apply rowCells_congr
  intro m _
  by_cases hm : m = 0
  · subst hm; simp [h]
  · have : ¬ m ≤ 0 := by omega
    simp [hm]
theorem end_row {n j : Nat} {A : Nat → Bool} (h : n ≤ j + 1) : rowCells n (fun m => decide (m ≤ j) && A m) = rowCells n A := by
  apply rowCells_congr
  intro m hm
  have : m ≤ j := by omega
  simp [this]
theorem row_at {n j : Nat} {A : Nat → Bool} {w : World} {g : Nat} {t : TypeId} (h : Blk w g t (rowCells n fun m => decide (m ≤ j) && A m)) (hj : j < n) : w.cell? ⟨g, j, none⟩ = some (.bool (A j)) := by
  rw [h.cell j, rowCells_get _ hj]; simp

set_option maxHeartbeats 2000000 in
theorem next_short (k n g : Nat) (c : UInt8) (f : Nat → Bool) (s : ByteArray) (w : World) (hk3 : k ≤ 3) (h2 : ((k : Int) == 2) = false) (h3 : ((k : Int) == 3) = false) (hn : s.size < n) (hn' : n ≤ s.size + 1) (hs : s.size ≤ 1000000000000)
    (hr : Blk w g 4 (rowCells n f)) :
    Calls Try.prog 40 #[.agg #[.int .i64 k, .int .u8 c.toNat], .slice (some ⟨g, 0, none⟩) n n, .string s] w (NextPost w n (af (k, c) f s.data.toList)) := by
  obtain ⟨i0, hi, hz0, hz1, hz2⟩ := info_parts boolInfo
  go_enter Try.func40, Try.ntmps40
  go_wp2_with (at_make; refine wpList_make_full _ rfl _ _ 74 rfl w.heap.size 4 i0 (.bool false) 1 Try.underlying74 hi hz0 hz1 .i64 .i64 _ _ n rfl rfl ?a1 ?a2 ?a3 ?a4 ?a5 ?_)
  case a1 => rfl
  case a2 => rfl
  case a3 => rw [hz2]; omega
  case a4 => unfold maxLen; omega
  case a5 => simp
  intro w1 hown1 hg1
  have hb1 : Below w.heap.size w w1 := ((Below.refl _ _).alloc (Nat.le_refl _) _).grown hg1 (by simp) (by intro k hk; cases hk)
  have hA : Blk w1 (w.heap.size + 1) 4 (rowCells n fun _ => false) := blk_made hown1
  have hX : Blk w1 w.heap.size 76 #[.int .i64 k, .int .u8 c.toNat] := (Blk.new w _ _).grown hg1 (by simp)
  have hR : Blk w1 g 4 (rowCells n f) := hr.below hb1 hr.lt
  clear hown1 hg1
  have x0 := hX.cell 0
  have x1 := hX.cell 1
  simp only [List.getElem?_toArray, List.getElem?_cons_zero, List.getElem?_cons_succ] at x0 x1
  have a0 := hA.cell 0
  rw [rowCells_get _ (by omega)] at a0
  have af0 := hA.frozen 0
  have hr0 := hR.cell 0
  rw [rowCells_get _ (by omega)] at hr0
  go_wp2
  have hA1 := hA.set_ 0 (.bool false)
  rw [rowCells_set] at hA1
  have hb2 : Below w.heap.size w (w1.setCell ⟨w.heap.size + 1, 0, none⟩ (.bool false)) := hb1.setCell (by simp) _
  have hX2 := hX.far (p := ⟨w.heap.size + 1, 0, none⟩) (by simp) (.bool false)
  clear x0 x1 a0 af0 hr0
  generalize w1.setCell ⟨w.heap.size + 1, 0, none⟩ (.bool false) = w2 at *
  go_loopw [31] (fun i wr => ∃ j : Nat, j ≤ s.size ∧ i = .int .i64 j ∧ Blk wr (w.heap.size + 1) 4 (rowCells n fun m => decide (m ≤ j) && af (k, c) f s.data.toList m) ∧ Below w.heap.size w wr ∧ Blk wr w.heap.size 76 #[.int .i64 k, .int .u8 c.toNat])
    (fun i _ => s.size - (intOf i).toNat)
  case atStart =>
    refine ⟨0, Nat.zero_le _, rfl, ?_, hb2, hX2⟩
    rw [← start_row (n := n) (A := af (k, c) f s.data.toList) (b := false) (by (have hl : lng (k, c) = false := (by simp [lng] at h2 h3 ⊢; omega)); simp [af, hl])]
    exact hA1
  case round =>
    obtain ⟨j, hj, rfl, hAr, hbr, hXr⟩ := hrel
    clear hA hX hR hb1 hA1 hb2 hX2
    have hsz := hAr.lt
    by_cases hlt : j < s.size
    · have x0 := hXr.cell 0
      have x1 := hXr.cell 1
      simp only [List.getElem?_toArray, List.getElem?_cons_zero, List.getElem?_cons_succ] at x0 x1
      have ab := row_at hAr (by omega)
      have aj := hAr.cell (j + 1)
      rw [rowCells_get _ (by omega)] at aj
      have afj := hAr.frozen (j + 1)
      have hR0 := (hr.below hbr hr.lt).cell j
      rw [rowCells_get _ (by omega)] at hR0
      have hR1 := (hr.below hbr hr.lt).cell (j + 1)
      rw [rowCells_get _ (by omega)] at hR1
      have HS := Lib.hid (show af (k, c) f s.data.toList (j + 1) = (f j && takes (k, c) s[j]) from by
        have hl : lng (k, c) = false := by simp [lng] at h2 h3 ⊢; omega
        simp only [af, hl, bytes_at s j hlt]; simp)
      by_cases hf : f j = true
      · have Hq := Lib.hid (show af (k, c) f s.data.toList (j + 1) = takes (k, c) s[j] from by rw [HS.out, hf]; simp)
        rw [hf] at hR0
        clear hR1 ab
        go_wp2
        go_region_with (go_at_call 49; refine (takes_any k c _ _ hk3).mono ?_; rintro e w' ⟨rfl, rfl⟩)
        all_goals
          go_wp2
          go_roundw
          case rel =>
            refine ⟨j + 1, by omega, by go_num, ?_, ?_, ?_⟩
            · rw [← row_step (b := takes (k, c) s[j]) (Hq.out.symm)]
              exact ((hAr.set_ (j + 1) _).alloc _).drew
            · exact ((hbr.setCell (p := ⟨w.heap.size + 1, j + 1, none⟩) (by simp) _).alloc (by have := hbr.size; simp; omega) _).drew
            · exact ((hXr.far (p := ⟨w.heap.size + 1, j + 1, none⟩) (by simp) _).alloc _).drew
          case measure => simp [intOf]; omega
      · have hf' : f j = false := by simpa using hf
        have Hq := Lib.hid (show af (k, c) f s.data.toList (j + 1) = false from by rw [HS.out, hf']; rfl)
        rw [hf'] at hR0
        clear hR1 ab
        go_wp2
        go_region
        all_goals
          go_wp2
          go_roundw
          case rel =>
            refine ⟨j + 1, by omega, by go_num, ?_, ?_, ?_⟩
            · rw [← row_step (b := false) (Hq.out.symm)]
              exact ((hAr.set_ (j + 1) _)).drew
            · exact ((hbr.setCell (p := ⟨w.heap.size + 1, j + 1, none⟩) (by simp) _)).drew
            · exact ((hXr.far (p := ⟨w.heap.size + 1, j + 1, none⟩) (by simp) _)).drew
          case measure => simp [intOf]; omega
    · have hjn : j = s.size := by omega
      subst hjn
      go_wp2
      go_ret
      refine ⟨w.heap.size + 1, rfl, ?_, hbr⟩
      rw [← end_row (A := af (k, c) f s.data.toList) hn']
      exact hAr

set_option maxHeartbeats 2000000 in
theorem next_long2 (n g : Nat) (c : UInt8) (f : Nat → Bool) (s : ByteArray) (w : World) (hn : s.size < n) (hn' : n ≤ s.size + 1) (hs : s.size ≤ 1000000000000)
    (hr : Blk w g 4 (rowCells n f)) :
    Calls Try.prog 40 #[.agg #[.int .i64 2, .int .u8 c.toNat], .slice (some ⟨g, 0, none⟩) n n, .string s] w (NextPost w n (af (2, c) f s.data.toList)) := by
  obtain ⟨i0, hi, hz0, hz1, hz2⟩ := info_parts boolInfo
  go_enter Try.func40, Try.ntmps40
  go_wp2_with (at_make; refine wpList_make_full _ rfl _ _ 74 rfl w.heap.size 4 i0 (.bool false) 1 Try.underlying74 hi hz0 hz1 .i64 .i64 _ _ n rfl rfl ?a1 ?a2 ?a3 ?a4 ?a5 ?_)
  case a1 => rfl
  case a2 => rfl
  case a3 => rw [hz2]; omega
  case a4 => unfold maxLen; omega
  case a5 => simp
  intro w1 hown1 hg1
  have hb1 : Below w.heap.size w w1 := ((Below.refl _ _).alloc (Nat.le_refl _) _).grown hg1 (by simp) (by intro k hk; cases hk)
  have hA : Blk w1 (w.heap.size + 1) 4 (rowCells n fun _ => false) := blk_made hown1
  have hX : Blk w1 w.heap.size 76 #[.int .i64 2, .int .u8 c.toNat] := (Blk.new w _ _).grown hg1 (by simp)
  have hR : Blk w1 g 4 (rowCells n f) := hr.below hb1 hr.lt
  clear hown1 hg1
  have x0 := hX.cell 0
  have x1 := hX.cell 1
  simp only [List.getElem?_toArray, List.getElem?_cons_zero, List.getElem?_cons_succ] at x0 x1
  have a0 := hA.cell 0
  rw [rowCells_get _ (by omega)] at a0
  have af0 := hA.frozen 0
  have hr0 := hR.cell 0
  rw [rowCells_get _ (by omega)] at hr0
  go_wp2
  have hA1 := hA.set_ 0 (.bool (f 0))
  rw [rowCells_set] at hA1
  have hb2 : Below w.heap.size w (w1.setCell ⟨w.heap.size + 1, 0, none⟩ (.bool (f 0))) := hb1.setCell (by simp) _
  have hX2 := hX.far (p := ⟨w.heap.size + 1, 0, none⟩) (by simp) (.bool (f 0))
  clear x0 x1 a0 af0 hr0
  generalize w1.setCell ⟨w.heap.size + 1, 0, none⟩ (.bool (f 0)) = w2 at *
  go_loopw [31] (fun i wr => ∃ j : Nat, j ≤ s.size ∧ i = .int .i64 j ∧ Blk wr (w.heap.size + 1) 4 (rowCells n fun m => decide (m ≤ j) && af (2, c) f s.data.toList m) ∧ Below w.heap.size w wr ∧ Blk wr w.heap.size 76 #[.int .i64 2, .int .u8 c.toNat])
    (fun i _ => s.size - (intOf i).toNat)
  case atStart =>
    refine ⟨0, Nat.zero_le _, rfl, ?_, hb2, hX2⟩
    rw [← start_row (n := n) (A := af (2, c) f s.data.toList) (b := (f 0)) (by simp [af, lng])]
    exact hA1
  case round =>
    obtain ⟨j, hj, rfl, hAr, hbr, hXr⟩ := hrel
    clear hA hX hR hb1 hA1 hb2 hX2
    have hsz := hAr.lt
    by_cases hlt : j < s.size
    · have x0 := hXr.cell 0
      have x1 := hXr.cell 1
      simp only [List.getElem?_toArray, List.getElem?_cons_zero, List.getElem?_cons_succ] at x0 x1
      have ab := row_at hAr (by omega)
      have aj := hAr.cell (j + 1)
      rw [rowCells_get _ (by omega)] at aj
      have afj := hAr.frozen (j + 1)
      have hR0 := (hr.below hbr hr.lt).cell j
      rw [rowCells_get _ (by omega)] at hR0
      have hR1 := (hr.below hbr hr.lt).cell (j + 1)
      rw [rowCells_get _ (by omega)] at hR1
      have HS := Lib.hid (show af (2, c) f s.data.toList (j + 1) = (f (j + 1) || (af (2, c) f s.data.toList j && takes (2, c) s[j])) from by
        have hl : lng (2, c) = true := by simp [lng]
        conv => lhs; unfold af
        rw [if_pos hl, bytes_at s j hlt])
      by_cases hf : f (j + 1) = true
      · have Hq := Lib.hid (show af (2, c) f s.data.toList (j + 1) = true from by rw [HS.out, hf]; rfl)
        rw [hf] at hR1
        clear hR0 ab
        go_wp2
        go_region
        all_goals
          go_wp2
          go_roundw
          case rel =>
            refine ⟨j + 1, by omega, by go_num, ?_, ?_, ?_⟩
            · rw [← row_step (b := true) (Hq.out.symm)]
              exact ((hAr.set_ (j + 1) _)).drew
            · exact ((hbr.setCell (p := ⟨w.heap.size + 1, j + 1, none⟩) (by simp) _)).drew
            · exact ((hXr.far (p := ⟨w.heap.size + 1, j + 1, none⟩) (by simp) _)).drew
          case measure => simp [intOf]; omega
      · have hf' : f (j + 1) = false := by simpa using hf
        rw [hf'] at hR1
        by_cases hg : af (2, c) f s.data.toList j = true
        · have Hq := Lib.hid (show af (2, c) f s.data.toList (j + 1) = takes (2, c) s[j] from by rw [HS.out, hf', hg]; simp)
          rw [hg] at ab
          have b4 : IntKind.i64.wrap ((j : Int) + 1) = (j : Int) + 1 := IntWalk.i64_in _ (by omega)
          clear hR0
          go_wp2
          go_region_with (go_at_call 49; refine (takes_any 2 c _ _ (by omega)).mono ?_; rintro e w' ⟨rfl, rfl⟩)
          all_goals
            go_wp2
            go_roundw
            case rel =>
              refine ⟨j + 1, by omega, by go_num, ?_, ?_, ?_⟩
              · rw [← row_step (b := takes (2, c) s[j]) (Hq.out.symm)]
                exact ((hAr.set_ (j + 1) _).alloc _).drew
              · exact ((hbr.setCell (p := ⟨w.heap.size + 1, j + 1, none⟩) (by simp) _).alloc (by have := hbr.size; simp; omega) _).drew
              · exact ((hXr.far (p := ⟨w.heap.size + 1, j + 1, none⟩) (by simp) _).alloc _).drew
            case measure => simp [intOf]; omega
        · have hg' : af (2, c) f s.data.toList j = false := by simpa using hg
          have Hq := Lib.hid (show af (2, c) f s.data.toList (j + 1) = false from by rw [HS.out, hf', hg']; rfl)
          rw [hg'] at ab
          clear hR0
          go_wp2
          go_region
          all_goals
            go_wp2
            go_roundw
            case rel =>
              refine ⟨j + 1, by omega, by go_num, ?_, ?_, ?_⟩
              · rw [← row_step (b := false) (Hq.out.symm)]
                exact ((hAr.set_ (j + 1) _)).drew
              · exact ((hbr.setCell (p := ⟨w.heap.size + 1, j + 1, none⟩) (by simp) _)).drew
              · exact ((hXr.far (p := ⟨w.heap.size + 1, j + 1, none⟩) (by simp) _)).drew
            case measure => simp [intOf]; omega
    · have hjn : j = s.size := by omega
      subst hjn
      go_wp2
      go_ret
      refine ⟨w.heap.size + 1, rfl, ?_, hbr⟩
      rw [← end_row (A := af (2, c) f s.data.toList) hn']
      exact hAr

set_option maxHeartbeats 2000000 in
theorem next_long3 (n g : Nat) (c : UInt8) (f : Nat → Bool) (s : ByteArray) (w : World) (hn : s.size < n) (hn' : n ≤ s.size + 1) (hs : s.size ≤ 1000000000000)
    (hr : Blk w g 4 (rowCells n f)) :
    Calls Try.prog 40 #[.agg #[.int .i64 3, .int .u8 c.toNat], .slice (some ⟨g, 0, none⟩) n n, .string s] w (NextPost w n (af (3, c) f s.data.toList)) := by
  obtain ⟨i0, hi, hz0, hz1, hz2⟩ := info_parts boolInfo
  go_enter Try.func40, Try.ntmps40
  go_wp2_with (at_make; refine wpList_make_full _ rfl _ _ 74 rfl w.heap.size 4 i0 (.bool false) 1 Try.underlying74 hi hz0 hz1 .i64 .i64 _ _ n rfl rfl ?a1 ?a2 ?a3 ?a4 ?a5 ?_)
  case a1 => rfl
  case a2 => rfl
  case a3 => rw [hz2]; omega
  case a4 => unfold maxLen; omega
  case a5 => simp
  intro w1 hown1 hg1
  have hb1 : Below w.heap.size w w1 := ((Below.refl _ _).alloc (Nat.le_refl _) _).grown hg1 (by simp) (by intro k hk; cases hk)
  have hA : Blk w1 (w.heap.size + 1) 4 (rowCells n fun _ => false) := blk_made hown1
  have hX : Blk w1 w.heap.size 76 #[.int .i64 3, .int .u8 c.toNat] := (Blk.new w _ _).grown hg1 (by simp)
  have hR : Blk w1 g 4 (rowCells n f) := hr.below hb1 hr.lt
  clear hown1 hg1
  have x0 := hX.cell 0
  have x1 := hX.cell 1
  simp only [List.getElem?_toArray, List.getElem?_cons_zero, List.getElem?_cons_succ] at x0 x1
  have a0 := hA.cell 0
  rw [rowCells_get _ (by omega)] at a0
  have af0 := hA.frozen 0
  have hr0 := hR.cell 0
  rw [rowCells_get _ (by omega)] at hr0
  go_wp2
  have hA1 := hA.set_ 0 (.bool (f 0))
  rw [rowCells_set] at hA1
  have hb2 : Below w.heap.size w (w1.setCell ⟨w.heap.size + 1, 0, none⟩ (.bool (f 0))) := hb1.setCell (by simp) _
  have hX2 := hX.far (p := ⟨w.heap.size + 1, 0, none⟩) (by simp) (.bool (f 0))
  clear x0 x1 a0 af0 hr0
  generalize w1.setCell ⟨w.heap.size + 1, 0, none⟩ (.bool (f 0)) = w2 at *
  go_loopw [31] (fun i wr => ∃ j : Nat, j ≤ s.size ∧ i = .int .i64 j ∧ Blk wr (w.heap.size + 1) 4 (rowCells n fun m => decide (m ≤ j) && af (3, c) f s.data.toList m) ∧ Below w.heap.size w wr ∧ Blk wr w.heap.size 76 #[.int .i64 3, .int .u8 c.toNat])
    (fun i _ => s.size - (intOf i).toNat)
  case atStart =>
    refine ⟨0, Nat.zero_le _, rfl, ?_, hb2, hX2⟩
    rw [← start_row (n := n) (A := af (3, c) f s.data.toList) (b := (f 0)) (by simp [af, lng])]
    exact hA1
  case round =>
    obtain ⟨j, hj, rfl, hAr, hbr, hXr⟩ := hrel
    clear hA hX hR hb1 hA1 hb2 hX2
    have hsz := hAr.lt
    by_cases hlt : j < s.size
    · have x0 := hXr.cell 0
      have x1 := hXr.cell 1
      simp only [List.getElem?_toArray, List.getElem?_cons_zero, List.getElem?_cons_succ] at x0 x1
      have ab := row_at hAr (by omega)
      have aj := hAr.cell (j + 1)
      rw [rowCells_get _ (by omega)] at aj
      have afj := hAr.frozen (j + 1)
      have hR0 := (hr.below hbr hr.lt).cell j
      rw [rowCells_get _ (by omega)] at hR0
      have hR1 := (hr.below hbr hr.lt).cell (j + 1)
      rw [rowCells_get _ (by omega)] at hR1
      have HS := Lib.hid (show af (3, c) f s.data.toList (j + 1) = (f (j + 1) || (af (3, c) f s.data.toList j && takes (3, c) s[j])) from by
        have hl : lng (3, c) = true := by simp [lng]
        conv => lhs; unfold af
        rw [if_pos hl, bytes_at s j hlt])
      by_cases hf : f (j + 1) = true
      · have Hq := Lib.hid (show af (3, c) f s.data.toList (j + 1) = true from by rw [HS.out, hf]; rfl)
        rw [hf] at hR1
        clear hR0 ab
        go_wp2
        go_region
        all_goals
          go_wp2
          go_roundw
          case rel =>
            refine ⟨j + 1, by omega, by go_num, ?_, ?_, ?_⟩
            · rw [← row_step (b := true) (Hq.out.symm)]
              exact ((hAr.set_ (j + 1) _)).drew
            · exact ((hbr.setCell (p := ⟨w.heap.size + 1, j + 1, none⟩) (by simp) _)).drew
            · exact ((hXr.far (p := ⟨w.heap.size + 1, j + 1, none⟩) (by simp) _)).drew
          case measure => simp [intOf]; omega
      · have hf' : f (j + 1) = false := by simpa using hf
        rw [hf'] at hR1
        by_cases hg : af (3, c) f s.data.toList j = true
        · have Hq := Lib.hid (show af (3, c) f s.data.toList (j + 1) = takes (3, c) s[j] from by rw [HS.out, hf', hg]; simp)
          rw [hg] at ab
          have b4 : IntKind.i64.wrap ((j : Int) + 1) = (j : Int) + 1 := IntWalk.i64_in _ (by omega)
          clear hR0
          go_wp2
          go_region_with (go_at_call 49; refine (takes_any 3 c _ _ (by omega)).mono ?_; rintro e w' ⟨rfl, rfl⟩)
          all_goals
            go_wp2
            go_roundw
            case rel =>
              refine ⟨j + 1, by omega, by go_num, ?_, ?_, ?_⟩
              · rw [← row_step (b := takes (3, c) s[j]) (Hq.out.symm)]
                exact ((hAr.set_ (j + 1) _).alloc _).drew
              · exact ((hbr.setCell (p := ⟨w.heap.size + 1, j + 1, none⟩) (by simp) _).alloc (by have := hbr.size; simp; omega) _).drew
              · exact ((hXr.far (p := ⟨w.heap.size + 1, j + 1, none⟩) (by simp) _).alloc _).drew
            case measure => simp [intOf]; omega
        · have hg' : af (3, c) f s.data.toList j = false := by simpa using hg
          have Hq := Lib.hid (show af (3, c) f s.data.toList (j + 1) = false from by rw [HS.out, hf', hg']; rfl)
          rw [hg'] at ab
          clear hR0
          go_wp2
          go_region
          all_goals
            go_wp2
            go_roundw
            case rel =>
              refine ⟨j + 1, by omega, by go_num, ?_, ?_, ?_⟩
              · rw [← row_step (b := false) (Hq.out.symm)]
                exact ((hAr.set_ (j + 1) _)).drew
              · exact ((hbr.setCell (p := ⟨w.heap.size + 1, j + 1, none⟩) (by simp) _)).drew
              · exact ((hXr.far (p := ⟨w.heap.size + 1, j + 1, none⟩) (by simp) _)).drew
            case measure => simp [intOf]; omega
    · have hjn : j = s.size := by omega
      subst hjn
      go_wp2
      go_ret
      refine ⟨w.heap.size + 1, rfl, ?_, hbr⟩
      rw [← end_row (A := af (3, c) f s.data.toList) hn']
      exact hAr

end Go.Proofs.Ythdolhfaiofogaa
