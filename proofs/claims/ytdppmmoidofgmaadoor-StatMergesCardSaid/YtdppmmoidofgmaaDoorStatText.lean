/-
  The counters as lines.
-/
import Derived.Test.YtdppmmoidofgmaaDoorStatRead
import Derived.Test.YtdppmmoidofgmaaDoorShelf
import Derived.Test.YtdppmmoidofgmaaDoorBuilderS
import Derived.Deep.RegionLaw
import Derived.Lib.LaidTab
import Derived.Lib.ItoaLen
import Derived.Lib.AppendIntMem
namespace Go.Proofs.YtdppmmoidofgmaaDoor
open Go.RowKit

/-- The table that FormatInt reads lies in w. -/
def TabW (w : World) : Prop := Lib.TabIs Tryd.prog w "internal/strconv.uint64pow10" .u64 Lib.pow10Tab
theorem TabW.spares {F : Nat → Prop} {w w' : World} (h : TabW w) (hs : Spares F w w') (hF : ¬ F 0) : TabW w' := by
  unfold TabW Lib.TabIs World.var? at h ⊢
  rw [show Tryd.prog.globalNamed "internal/strconv.uint64pow10" = some 0 by kernel_rfl] at h ⊢
  simp only [Option.bind_some] at h ⊢
  have hlt : 0 < w.heap.size := by
    rcases Nat.lt_or_ge 0 w.heap.size with h' | h'
    · exact h'
    · rw [Array.getElem?_eq_none h'] at h; cases h
  rw [hs.block 0 hlt hF]
  exact h
theorem TabW.below {w w' : World} (h : TabW w) (hb : Below w.heap.size w w') : TabW w' := h.spares (Below.spares (F := nowhere) hb (fun _ hk => .inr hk)) (fun h => h)
def wordL : Nat → List UInt8
  | 0 => [104, 105, 116]
  | 1 => [109, 105, 115, 115]
  | 2 => [99, 104, 101, 99, 107]
  | 3 => [100, 101, 110, 121]
  | 4 => [101, 114, 114, 111, 114]
  | _ => [99, 111, 110, 115, 111, 108, 101]
def lineL (L : Cs) (k : Nat) : List UInt8 := wordL k ++ [32] ++ Lib.itoa (gI L k) ++ [10]
def linesL (L : Cs) (k : Nat) : List UInt8 := (List.range k).flatMap (lineL L)
def lastL (L : Cs) : List UInt8 := [98, 121, 116, 101, 115, 32] ++ Lib.itoa (gI L 44) ++ [10]
def textL (L : Cs) : List UInt8 := linesL L 6 ++ lastL L
theorem linesL_succ (L : Cs) (k : Nat) : linesL L (k + 1) = linesL L k ++ lineL L k := by
  unfold linesL
  rw [List.range_succ, List.flatMap_append]
  simp
-- GEN
theorem format_any (n : Int) (h0 : 0 ≤ n) (h1 : n ≤ 9223372036854775807) (w : World) (ht : TabW w) :
    Calls Tryd.prog 26 #[.int .i64 n, .int .i64 10] w fun e w' => e = .returned (.string ⟨(Lib.itoa n).toArray⟩) ∧ Below w.heap.size w w' := by
  refine (Tryd.strconv_FormatInt_10 n (by omega) h1 w ht).mono ?_
  rintro e w' ⟨he, k, os, rfl⟩
  exact ⟨he, Lib.below_grow _ _ (Nat.le_refl _) k os⟩
theorem itoa_size (n : Int) (h0 : 0 ≤ n) (h1 : n ≤ 9223372036854775807) : (⟨(Lib.itoa n).toArray⟩ : ByteArray).size ≤ 21 := by
  have := Lib.itoa_length_le n (by omega) (by omega)
  show (Lib.itoa n).toArray.size ≤ 21
  simpa using this
theorem ofF_at (L : Cs) (k : Nat) (h : k < 6) : ofF L (k : Int) = gI L k := (if_pos (by omega)).trans (by simp)
theorem lineL_len {L : Cs} {M : Int} (hf : Fair L M) (hM : M ≤ 9223372036854775807) (k : Nat) : (lineL L k).length ≤ 40 := by
  have hp := hf.pos k
  have := Lib.itoa_length_le (gI L k) (by omega) (by omega)
  have hw : (wordL k).length ≤ 7 := by unfold wordL; split <;> decide
  unfold lineL
  simp only [List.length_append, List.length_cons, List.length_nil]
  omega
theorem linesL_len {L : Cs} {M : Int} (hf : Fair L M) (hM : M ≤ 9223372036854775807) : ∀ k, (linesL L k).length ≤ 40 * k
  | 0 => by simp [linesL]
  | k + 1 => by
    have := linesL_len hf hM k
    have := lineL_len hf hM k
    rw [linesL_succ, List.length_append]
    omega
theorem builder_below {B b : Nat} {bs : List Value} {w w' : World} (h : Lib.IsBuilder 64 5 B b bs w) (hb : Below w.heap.size w w') : Lib.IsBuilder 64 5 B b bs w' := by
  have hs := Below.spares (F := nowhere) hb (fun k hk => .inr hk)
  have hA : ∀ p, Lib.BuilderAt 64 5 B b p bs w → Lib.BuilderAt 64 5 B b p bs w' := fun p h => by
    have hlt := h.lt
    obtain ⟨hB, v, hbk, hown, hne⟩ := h
    exact ⟨hB, v, (hb.block _ hlt).trans hbk, hs.own hown (fun g _ h => h), hne⟩
  rcases h with h | h
  · exact .inl (hA _ h)
  · exact .inr (hA _ h)
theorem idx_0 (w : World) : (Instr.index 60 (.agg #[.string ⟨#[104, 105, 116]⟩, .string ⟨#[109, 105, 115, 115]⟩, .string ⟨#[99, 104, 101, 99, 107]⟩, .string ⟨#[100, 101, 110, 121]⟩, .string ⟨#[101, 114, 114, 111, 114]⟩, .string ⟨#[99, 111, 110, 115, 111, 108, 101]⟩]) (.int .i64 0)).run Tryd.prog w = .ok (.string ⟨#[104, 105, 116]⟩) w := by kernel_rfl
theorem idx_1 (w : World) : (Instr.index 60 (.agg #[.string ⟨#[104, 105, 116]⟩, .string ⟨#[109, 105, 115, 115]⟩, .string ⟨#[99, 104, 101, 99, 107]⟩, .string ⟨#[100, 101, 110, 121]⟩, .string ⟨#[101, 114, 114, 111, 114]⟩, .string ⟨#[99, 111, 110, 115, 111, 108, 101]⟩]) (.int .i64 1)).run Tryd.prog w = .ok (.string ⟨#[109, 105, 115, 115]⟩) w := by kernel_rfl
theorem idx_2 (w : World) : (Instr.index 60 (.agg #[.string ⟨#[104, 105, 116]⟩, .string ⟨#[109, 105, 115, 115]⟩, .string ⟨#[99, 104, 101, 99, 107]⟩, .string ⟨#[100, 101, 110, 121]⟩, .string ⟨#[101, 114, 114, 111, 114]⟩, .string ⟨#[99, 111, 110, 115, 111, 108, 101]⟩]) (.int .i64 2)).run Tryd.prog w = .ok (.string ⟨#[99, 104, 101, 99, 107]⟩) w := by kernel_rfl
theorem idx_3 (w : World) : (Instr.index 60 (.agg #[.string ⟨#[104, 105, 116]⟩, .string ⟨#[109, 105, 115, 115]⟩, .string ⟨#[99, 104, 101, 99, 107]⟩, .string ⟨#[100, 101, 110, 121]⟩, .string ⟨#[101, 114, 114, 111, 114]⟩, .string ⟨#[99, 111, 110, 115, 111, 108, 101]⟩]) (.int .i64 3)).run Tryd.prog w = .ok (.string ⟨#[100, 101, 110, 121]⟩) w := by kernel_rfl
theorem idx_4 (w : World) : (Instr.index 60 (.agg #[.string ⟨#[104, 105, 116]⟩, .string ⟨#[109, 105, 115, 115]⟩, .string ⟨#[99, 104, 101, 99, 107]⟩, .string ⟨#[100, 101, 110, 121]⟩, .string ⟨#[101, 114, 114, 111, 114]⟩, .string ⟨#[99, 111, 110, 115, 111, 108, 101]⟩]) (.int .i64 4)).run Tryd.prog w = .ok (.string ⟨#[101, 114, 114, 111, 114]⟩) w := by kernel_rfl
theorem idx_5 (w : World) : (Instr.index 60 (.agg #[.string ⟨#[104, 105, 116]⟩, .string ⟨#[109, 105, 115, 115]⟩, .string ⟨#[99, 104, 101, 99, 107]⟩, .string ⟨#[100, 101, 110, 121]⟩, .string ⟨#[101, 114, 114, 111, 114]⟩, .string ⟨#[99, 111, 110, 115, 111, 108, 101]⟩]) (.int .i64 5)).run Tryd.prog w = .ok (.string ⟨#[99, 111, 110, 115, 111, 108, 101]⟩) w := by kernel_rfl
set_option maxRecDepth 100000 in
set_option maxHeartbeats 4000000 in
theorem text_any (p : Nat) (L : Cs) (M : Int) (w : World) (h : IsStat p L w) (hf : Fair L M) (hM : M ≤ 9223372036854775807) (ht : TabW w) :
    Calls Tryd.prog 19 #[.pointer (some ⟨p, 0, none⟩)] w fun e w' => e = .returned (.string ⟨(textL L).toArray⟩) ∧ Below w.heap.size w w' := by
  have hl := hf.len
  obtain ⟨B, hB⟩ : ∃ B, w.heap.size + 1 = B := ⟨_, rfl⟩
  have HK : Hid (∀ x, Below w.heap.size w x → IsStat p L x ∧ TabW x) := Lib.hid (fun x hx => ⟨h.below hx, ht.below hx⟩)
  have HLL := Lib.hid (linesL_len hf hM)
  have HSU := Lib.hid (linesL_succ L)
  have HP : Hid (∀ k, 0 ≤ gI L k ∧ gI L k ≤ 9223372036854775807) := Lib.hid (fun k => by have := hf.pos k; omega)
  have hbz : Below w.heap.size w ((w.alloc (.cells #[.string ⟨#[104, 105, 116]⟩, .string ⟨#[109, 105, 115, 115]⟩, .string ⟨#[99, 104, 101, 99, 107]⟩, .string ⟨#[100, 101, 110, 121]⟩, .string ⟨#[101, 114, 114, 111, 114]⟩, .string ⟨#[99, 111, 110, 115, 111, 108, 101]⟩] 60)).alloc (.cells #[.pointer none, .slice none 0 0] 64)) := (((Spares.refl nowhere w).alloc _).alloc _).below0
  have hbb := Lib.fresh_isBuilder 64 5 (w.alloc (.cells #[.string ⟨#[104, 105, 116]⟩, .string ⟨#[109, 105, 115, 115]⟩, .string ⟨#[99, 104, 101, 99, 107]⟩, .string ⟨#[100, 101, 110, 121]⟩, .string ⟨#[101, 114, 114, 111, 114]⟩, .string ⟨#[99, 111, 110, 115, 111, 108, 101]⟩] 60))
  rw [show (w.alloc (.cells #[.string ⟨#[104, 105, 116]⟩, .string ⟨#[109, 105, 115, 115]⟩, .string ⟨#[99, 104, 101, 99, 107]⟩, .string ⟨#[100, 101, 110, 121]⟩, .string ⟨#[101, 114, 114, 111, 114]⟩, .string ⟨#[99, 111, 110, 115, 111, 108, 101]⟩] 60)).heap.size = B by simp [hB]] at hbb
  have HBZ := Lib.hid hbz
  have HBB := Lib.hid hbb
  clear hbz hbb h ht hf
  go_enter Tryd.func19, Tryd.ntmps19
  go_wp2
  go_loopw [9] (fun i wr => ∃ k : Nat, k ≤ 6 ∧ i = .int .i64 k ∧ Lib.IsBuilder 64 5 B B (Lib.byteCells (linesL L k)) wr ∧ B ≤ wr.heap.size ∧ Below w.heap.size w wr) (fun i _ => 6 - (intOf i).toNat)
  case atStart => exact ⟨0, Nat.zero_le _, rfl, HBB.out, by simp; omega, HBZ.out⟩
  case round =>
    obtain ⟨k, hk, rfl, hBu, hBs, hbr⟩ := hrel
    have HBu := Lib.hid hBu
    have HBr := Lib.hid hbr
    clear hBu hbr
    have hll := HLL.out k
    rcases (show k = 0 ∨ k = 1 ∨ k = 2 ∨ k = 3 ∨ k = 4 ∨ k = 5 ∨ k = 6 by omega) with rfl | rfl | rfl | rfl | rfl | rfl | rfl
    · obtain ⟨n, hn⟩ : ∃ n, gI L 0 = n := ⟨_, rfl⟩
      have hp := HP.out 0
      rw [hn] at hp
      have htz := itoa_size n hp.1 hp.2
      have HTE : Hid (Lib.byteCells (linesL L 0) ++ Lib.strCells ((⟨#[104, 105, 116]⟩ : ByteArray) ++ ⟨#[32]⟩ ++ ⟨(Lib.itoa n).toArray⟩ ++ ⟨#[10]⟩) = Lib.byteCells (linesL L 1)) := Lib.hid (by
        rw [HSU.out 0, Lib.byteCells_append, Lib.strCells_eq]
        simp [lineL, wordL, ByteArray.data_append, hn])
      have HO : Hid (ofF L 0 = n) := Lib.hid ((ofF_at L 0 (by omega)).trans hn)
      obtain ⟨tx, htx⟩ : ∃ tx : ByteArray, (⟨(Lib.itoa n).toArray⟩ : ByteArray) = tx := ⟨_, rfl⟩
      rw [htx] at htz HTE
      have HTX := Lib.hid htx
      clear htx
      have hix := idx_0 wr
      go_wp2_with fail
      refine (of_any p L _ wr (HK.out wr HBr.out).1 hl).mono ?_
      rintro e w2 ⟨rfl, rfl⟩
      rw [HO.out]
      go_wp2_with fail
      refine (format_any n hp.1 hp.2 _ (HK.out _ HBr.out).2).mono ?_
      rintro e w3 ⟨rfl, hb3⟩
      rw [HTX.out]
      have hB3 := builder_below HBu.out hb3
      have hbs3 := hb3.size
      have HBr3 := Lib.hid (HBr.out.trans (hb3.mono HBr.out.size))
      clear hb3
      go_wp2_with fail
      refine (writeString_any B B _ _ w3 hB3 (by rw [Lib.byteCells_length]; simp only [ByteArray.size_append]; have : (⟨#[104, 105, 116]⟩ : ByteArray).size = 3 := rfl; have : (⟨#[32]⟩ : ByteArray).size = 1 := rfl; have : (⟨#[10]⟩ : ByteArray).size = 1 := rfl; omega) (by omega)).mono ?_
      rintro e w4 ⟨rfl, hB4, hb4, _⟩
      rw [HTE.out] at hB4
      have HB4 := Lib.hid hB4
      have hbs4 := hb4.size
      have HBr4 := Lib.hid (HBr3.out.trans (hb4.mono (by omega)))
      clear hB4 hb4 hB3
      go_wp2
      go_roundw
      case rel => exact ⟨1, by omega, by go_num, .inr HB4.out, by omega, HBr4.out⟩
      case measure => simp [intOf]
    · obtain ⟨n, hn⟩ : ∃ n, gI L 1 = n := ⟨_, rfl⟩
      have hp := HP.out 1
      rw [hn] at hp
      have htz := itoa_size n hp.1 hp.2
      have HTE : Hid (Lib.byteCells (linesL L 1) ++ Lib.strCells ((⟨#[109, 105, 115, 115]⟩ : ByteArray) ++ ⟨#[32]⟩ ++ ⟨(Lib.itoa n).toArray⟩ ++ ⟨#[10]⟩) = Lib.byteCells (linesL L 2)) := Lib.hid (by
        rw [HSU.out 1, Lib.byteCells_append, Lib.strCells_eq]
        simp [lineL, wordL, ByteArray.data_append, hn])
      have HO : Hid (ofF L 1 = n) := Lib.hid ((ofF_at L 1 (by omega)).trans hn)
      obtain ⟨tx, htx⟩ : ∃ tx : ByteArray, (⟨(Lib.itoa n).toArray⟩ : ByteArray) = tx := ⟨_, rfl⟩
      rw [htx] at htz HTE
      have HTX := Lib.hid htx
      clear htx
      have hix := idx_1 wr
      go_wp2_with fail
      refine (of_any p L _ wr (HK.out wr HBr.out).1 hl).mono ?_
      rintro e w2 ⟨rfl, rfl⟩
      rw [HO.out]
      go_wp2_with fail
      refine (format_any n hp.1 hp.2 _ (HK.out _ HBr.out).2).mono ?_
      rintro e w3 ⟨rfl, hb3⟩
      rw [HTX.out]
      have hB3 := builder_below HBu.out hb3
      have hbs3 := hb3.size
      have HBr3 := Lib.hid (HBr.out.trans (hb3.mono HBr.out.size))
      clear hb3
      go_wp2_with fail
      refine (writeString_any B B _ _ w3 hB3 (by rw [Lib.byteCells_length]; simp only [ByteArray.size_append]; have : (⟨#[109, 105, 115, 115]⟩ : ByteArray).size = 4 := rfl; have : (⟨#[32]⟩ : ByteArray).size = 1 := rfl; have : (⟨#[10]⟩ : ByteArray).size = 1 := rfl; omega) (by omega)).mono ?_
      rintro e w4 ⟨rfl, hB4, hb4, _⟩
      rw [HTE.out] at hB4
      have HB4 := Lib.hid hB4
      have hbs4 := hb4.size
      have HBr4 := Lib.hid (HBr3.out.trans (hb4.mono (by omega)))
      clear hB4 hb4 hB3
      go_wp2
      go_roundw
      case rel => exact ⟨2, by omega, by go_num, .inr HB4.out, by omega, HBr4.out⟩
      case measure => simp [intOf]
    · obtain ⟨n, hn⟩ : ∃ n, gI L 2 = n := ⟨_, rfl⟩
      have hp := HP.out 2
      rw [hn] at hp
      have htz := itoa_size n hp.1 hp.2
      have HTE : Hid (Lib.byteCells (linesL L 2) ++ Lib.strCells ((⟨#[99, 104, 101, 99, 107]⟩ : ByteArray) ++ ⟨#[32]⟩ ++ ⟨(Lib.itoa n).toArray⟩ ++ ⟨#[10]⟩) = Lib.byteCells (linesL L 3)) := Lib.hid (by
        rw [HSU.out 2, Lib.byteCells_append, Lib.strCells_eq]
        simp [lineL, wordL, ByteArray.data_append, hn])
      have HO : Hid (ofF L 2 = n) := Lib.hid ((ofF_at L 2 (by omega)).trans hn)
      obtain ⟨tx, htx⟩ : ∃ tx : ByteArray, (⟨(Lib.itoa n).toArray⟩ : ByteArray) = tx := ⟨_, rfl⟩
      rw [htx] at htz HTE
      have HTX := Lib.hid htx
      clear htx
      have hix := idx_2 wr
      go_wp2_with fail
      refine (of_any p L _ wr (HK.out wr HBr.out).1 hl).mono ?_
      rintro e w2 ⟨rfl, rfl⟩
      rw [HO.out]
      go_wp2_with fail
      refine (format_any n hp.1 hp.2 _ (HK.out _ HBr.out).2).mono ?_
      rintro e w3 ⟨rfl, hb3⟩
      rw [HTX.out]
      have hB3 := builder_below HBu.out hb3
      have hbs3 := hb3.size
      have HBr3 := Lib.hid (HBr.out.trans (hb3.mono HBr.out.size))
      clear hb3
      go_wp2_with fail
      refine (writeString_any B B _ _ w3 hB3 (by rw [Lib.byteCells_length]; simp only [ByteArray.size_append]; have : (⟨#[99, 104, 101, 99, 107]⟩ : ByteArray).size = 5 := rfl; have : (⟨#[32]⟩ : ByteArray).size = 1 := rfl; have : (⟨#[10]⟩ : ByteArray).size = 1 := rfl; omega) (by omega)).mono ?_
      rintro e w4 ⟨rfl, hB4, hb4, _⟩
      rw [HTE.out] at hB4
      have HB4 := Lib.hid hB4
      have hbs4 := hb4.size
      have HBr4 := Lib.hid (HBr3.out.trans (hb4.mono (by omega)))
      clear hB4 hb4 hB3
      go_wp2
      go_roundw
      case rel => exact ⟨3, by omega, by go_num, .inr HB4.out, by omega, HBr4.out⟩
      case measure => simp [intOf]
    · obtain ⟨n, hn⟩ : ∃ n, gI L 3 = n := ⟨_, rfl⟩
      have hp := HP.out 3
      rw [hn] at hp
      have htz := itoa_size n hp.1 hp.2
      have HTE : Hid (Lib.byteCells (linesL L 3) ++ Lib.strCells ((⟨#[100, 101, 110, 121]⟩ : ByteArray) ++ ⟨#[32]⟩ ++ ⟨(Lib.itoa n).toArray⟩ ++ ⟨#[10]⟩) = Lib.byteCells (linesL L 4)) := Lib.hid (by
        rw [HSU.out 3, Lib.byteCells_append, Lib.strCells_eq]
        simp [lineL, wordL, ByteArray.data_append, hn])
      have HO : Hid (ofF L 3 = n) := Lib.hid ((ofF_at L 3 (by omega)).trans hn)
      obtain ⟨tx, htx⟩ : ∃ tx : ByteArray, (⟨(Lib.itoa n).toArray⟩ : ByteArray) = tx := ⟨_, rfl⟩
      rw [htx] at htz HTE
      have HTX := Lib.hid htx
      clear htx
      have hix := idx_3 wr
      go_wp2_with fail
      refine (of_any p L _ wr (HK.out wr HBr.out).1 hl).mono ?_
      rintro e w2 ⟨rfl, rfl⟩
      rw [HO.out]
      go_wp2_with fail
      refine (format_any n hp.1 hp.2 _ (HK.out _ HBr.out).2).mono ?_
      rintro e w3 ⟨rfl, hb3⟩
      rw [HTX.out]
      have hB3 := builder_below HBu.out hb3
      have hbs3 := hb3.size
      have HBr3 := Lib.hid (HBr.out.trans (hb3.mono HBr.out.size))
      clear hb3
      go_wp2_with fail
      refine (writeString_any B B _ _ w3 hB3 (by rw [Lib.byteCells_length]; simp only [ByteArray.size_append]; have : (⟨#[100, 101, 110, 121]⟩ : ByteArray).size = 4 := rfl; have : (⟨#[32]⟩ : ByteArray).size = 1 := rfl; have : (⟨#[10]⟩ : ByteArray).size = 1 := rfl; omega) (by omega)).mono ?_
      rintro e w4 ⟨rfl, hB4, hb4, _⟩
      rw [HTE.out] at hB4
      have HB4 := Lib.hid hB4
      have hbs4 := hb4.size
      have HBr4 := Lib.hid (HBr3.out.trans (hb4.mono (by omega)))
      clear hB4 hb4 hB3
      go_wp2
      go_roundw
      case rel => exact ⟨4, by omega, by go_num, .inr HB4.out, by omega, HBr4.out⟩
      case measure => simp [intOf]
    · obtain ⟨n, hn⟩ : ∃ n, gI L 4 = n := ⟨_, rfl⟩
      have hp := HP.out 4
      rw [hn] at hp
      have htz := itoa_size n hp.1 hp.2
      have HTE : Hid (Lib.byteCells (linesL L 4) ++ Lib.strCells ((⟨#[101, 114, 114, 111, 114]⟩ : ByteArray) ++ ⟨#[32]⟩ ++ ⟨(Lib.itoa n).toArray⟩ ++ ⟨#[10]⟩) = Lib.byteCells (linesL L 5)) := Lib.hid (by
        rw [HSU.out 4, Lib.byteCells_append, Lib.strCells_eq]
        simp [lineL, wordL, ByteArray.data_append, hn])
      have HO : Hid (ofF L 4 = n) := Lib.hid ((ofF_at L 4 (by omega)).trans hn)
      obtain ⟨tx, htx⟩ : ∃ tx : ByteArray, (⟨(Lib.itoa n).toArray⟩ : ByteArray) = tx := ⟨_, rfl⟩
      rw [htx] at htz HTE
      have HTX := Lib.hid htx
      clear htx
      have hix := idx_4 wr
      go_wp2_with fail
      refine (of_any p L _ wr (HK.out wr HBr.out).1 hl).mono ?_
      rintro e w2 ⟨rfl, rfl⟩
      rw [HO.out]
      go_wp2_with fail
      refine (format_any n hp.1 hp.2 _ (HK.out _ HBr.out).2).mono ?_
      rintro e w3 ⟨rfl, hb3⟩
      rw [HTX.out]
      have hB3 := builder_below HBu.out hb3
      have hbs3 := hb3.size
      have HBr3 := Lib.hid (HBr.out.trans (hb3.mono HBr.out.size))
      clear hb3
      go_wp2_with fail
      refine (writeString_any B B _ _ w3 hB3 (by rw [Lib.byteCells_length]; simp only [ByteArray.size_append]; have : (⟨#[101, 114, 114, 111, 114]⟩ : ByteArray).size = 5 := rfl; have : (⟨#[32]⟩ : ByteArray).size = 1 := rfl; have : (⟨#[10]⟩ : ByteArray).size = 1 := rfl; omega) (by omega)).mono ?_
      rintro e w4 ⟨rfl, hB4, hb4, _⟩
      rw [HTE.out] at hB4
      have HB4 := Lib.hid hB4
      have hbs4 := hb4.size
      have HBr4 := Lib.hid (HBr3.out.trans (hb4.mono (by omega)))
      clear hB4 hb4 hB3
      go_wp2
      go_roundw
      case rel => exact ⟨5, by omega, by go_num, .inr HB4.out, by omega, HBr4.out⟩
      case measure => simp [intOf]
    · obtain ⟨n, hn⟩ : ∃ n, gI L 5 = n := ⟨_, rfl⟩
      have hp := HP.out 5
      rw [hn] at hp
      have htz := itoa_size n hp.1 hp.2
      have HTE : Hid (Lib.byteCells (linesL L 5) ++ Lib.strCells ((⟨#[99, 111, 110, 115, 111, 108, 101]⟩ : ByteArray) ++ ⟨#[32]⟩ ++ ⟨(Lib.itoa n).toArray⟩ ++ ⟨#[10]⟩) = Lib.byteCells (linesL L 6)) := Lib.hid (by
        rw [HSU.out 5, Lib.byteCells_append, Lib.strCells_eq]
        simp [lineL, wordL, ByteArray.data_append, hn])
      have HO : Hid (ofF L 5 = n) := Lib.hid ((ofF_at L 5 (by omega)).trans hn)
      obtain ⟨tx, htx⟩ : ∃ tx : ByteArray, (⟨(Lib.itoa n).toArray⟩ : ByteArray) = tx := ⟨_, rfl⟩
      rw [htx] at htz HTE
      have HTX := Lib.hid htx
      clear htx
      have hix := idx_5 wr
      go_wp2_with fail
      refine (of_any p L _ wr (HK.out wr HBr.out).1 hl).mono ?_
      rintro e w2 ⟨rfl, rfl⟩
      rw [HO.out]
      go_wp2_with fail
      refine (format_any n hp.1 hp.2 _ (HK.out _ HBr.out).2).mono ?_
      rintro e w3 ⟨rfl, hb3⟩
      rw [HTX.out]
      have hB3 := builder_below HBu.out hb3
      have hbs3 := hb3.size
      have HBr3 := Lib.hid (HBr.out.trans (hb3.mono HBr.out.size))
      clear hb3
      go_wp2_with fail
      refine (writeString_any B B _ _ w3 hB3 (by rw [Lib.byteCells_length]; simp only [ByteArray.size_append]; have : (⟨#[99, 111, 110, 115, 111, 108, 101]⟩ : ByteArray).size = 7 := rfl; have : (⟨#[32]⟩ : ByteArray).size = 1 := rfl; have : (⟨#[10]⟩ : ByteArray).size = 1 := rfl; omega) (by omega)).mono ?_
      rintro e w4 ⟨rfl, hB4, hb4, _⟩
      rw [HTE.out] at hB4
      have HB4 := Lib.hid hB4
      have hbs4 := hb4.size
      have HBr4 := Lib.hid (HBr3.out.trans (hb4.mono (by omega)))
      clear hB4 hb4 hB3
      go_wp2
      go_roundw
      case rel => exact ⟨6, by omega, by go_num, .inr HB4.out, by omega, HBr4.out⟩
      case measure => simp [intOf]
    · obtain ⟨n, hn⟩ : ∃ n, gI L 44 = n := ⟨_, rfl⟩
      have hp := HP.out 44
      rw [hn] at hp
      have htz := itoa_size n hp.1 hp.2
      have HTE : Hid (Lib.byteCells (linesL L 6) ++ Lib.strCells ((⟨#[98, 121, 116, 101, 115, 32]⟩ : ByteArray) ++ ⟨(Lib.itoa n).toArray⟩ ++ ⟨#[10]⟩) = Lib.byteCells (textL L)) := Lib.hid (by
        unfold textL
        rw [Lib.byteCells_append, Lib.strCells_eq]
        simp [lastL, ByteArray.data_append, hn])
      obtain ⟨tx, htx⟩ : ∃ tx : ByteArray, (⟨(Lib.itoa n).toArray⟩ : ByteArray) = tx := ⟨_, rfl⟩
      rw [htx] at htz HTE
      have HTX := Lib.hid htx
      have HN := Lib.hid hn
      clear htx hn
      go_wp2_with fail
      refine (bytes_any p L wr (HK.out wr HBr.out).1 hl).mono ?_
      rintro e w2 ⟨rfl, rfl⟩
      rw [HN.out]
      go_wp2_with fail
      refine (format_any n hp.1 hp.2 _ (HK.out _ HBr.out).2).mono ?_
      rintro e w3 ⟨rfl, hb3⟩
      rw [HTX.out]
      have hB3 := builder_below HBu.out hb3
      have hbs3 := hb3.size
      have HBr3 := Lib.hid (HBr.out.trans (hb3.mono HBr.out.size))
      clear hb3
      go_wp2_with fail
      refine (writeString_any B B _ _ w3 hB3 (by rw [Lib.byteCells_length]; simp only [ByteArray.size_append]; have : (⟨#[98, 121, 116, 101, 115, 32]⟩ : ByteArray).size = 6 := rfl; have : (⟨#[10]⟩ : ByteArray).size = 1 := rfl; omega) (by omega)).mono ?_
      rintro e w4 ⟨rfl, hB4, hb4, _⟩
      rw [HTE.out] at hB4
      have HB4 := Lib.hid hB4
      have hbs4 := hb4.size
      have HBr4 := Lib.hid (HBr3.out.trans (hb4.mono (by omega)))
      clear hB4 hb4 hB3
      go_wp2_with fail
      refine (Tryd.Builder_String_any B B _ w4 (.inr HB4.out) (by omega)).mono ?_
      rintro e w5 ⟨rfl, hb5⟩
      go_wp2
      go_ret
      exact ⟨rfl, HBr4.out.trans (hb5.mono (by omega))⟩
end Go.Proofs.YtdppmmoidofgmaaDoor
