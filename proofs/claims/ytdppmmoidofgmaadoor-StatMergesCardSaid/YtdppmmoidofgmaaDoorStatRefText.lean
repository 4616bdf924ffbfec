/-
  The reference's lines.
-/
import Derived.Test.YtdppmmoidofgmaaDoorStatText
import Derived.Test.YtdppmmoidofgmaaDoorStatRef
import Derived.RegionTactic
namespace Go.Proofs.YtdppmmoidofgmaaDoor
open Go.RowKit

theorem bytesE {a b : ByteArray} (h : a.data = b.data) : a = b := by
  cases a
  cases b
  exact congrArg _ h
def DecPost (n : Nat) (w : World) (e : Ending) (w' : World) : Prop := e = .returned (.string ⟨(Lib.decDigits n).toArray⟩) ∧ w' = w
theorem dec_len (n : Nat) (h : n ≤ 9223372036854775807) : (Lib.decDigits n).length ≤ 21 := by
  have := Lib.itoa_length_le (n : Int) (by omega) (by omega)
  unfold Lib.itoa at this
  rw [if_neg (by omega)] at this
  simpa using this
theorem one_digit (n : Nat) (h : n < 10) : (⟨#[48, 49, 50, 51, 52, 53, 54, 55, 56, 57]⟩ : ByteArray).extract n (n + 1) = ⟨(Lib.decDigits n).toArray⟩ := by
  rw [Lib.decDigits_one h]
  match n, h with
  | 0, _ | 1, _ | 2, _ | 3, _ | 4, _ | 5, _ | 6, _ | 7, _ | 8, _ | 9, _ => rfl
set_option maxRecDepth 100000 in
set_option maxHeartbeats 4000000 in
theorem dec_any : ∀ (f n : Nat) (w : World), n < f → n ≤ 9223372036854775807 → Calls Tryd.prog 32 #[.int .i64 n] w (DecPost n w) := by
  intro f
  induction f with
  | zero => intro n w h; omega
  | succ f ih =>
    intro n w hf hn
    unfold DecPost
    by_cases h10 : n < 10
    · have HD := Lib.hid (one_digit n h10)
      go_enter Tryd.func32, Tryd.ntmps32
      go_wp2
      go_ret
      exact ⟨by rw [← HD.out]; rfl, rfl⟩
    · have HD : Hid ((⟨(Lib.decDigits (n / 10)).toArray⟩ : ByteArray) ++ ⟨(Lib.decDigits (n % 10)).toArray⟩ = ⟨(Lib.decDigits n).toArray⟩) := Lib.hid (by
        rw [Lib.decDigits_one (show n % 10 < 10 by omega)]
        apply bytesE
        rw [ByteArray.data_append, show Lib.decDigits n = Lib.decDigits (n / 10) ++ [UInt8.ofNat (48 + n % 10)] from by rw [Lib.decDigits, dif_neg h10]]
        simp)
      have c1 := fun w => ih (n / 10) w (by omega) (by omega)
      have c2 := fun w => ih (n % 10) w (by omega) (by omega)
      unfold DecPost at c1 c2
      have z1 : (⟨(Lib.decDigits (n / 10)).toArray⟩ : ByteArray).size ≤ 21 := by
        show (Lib.decDigits (n / 10)).toArray.size ≤ 21
        simpa using dec_len (n / 10) (by omega)
      have z2 : (⟨(Lib.decDigits (n % 10)).toArray⟩ : ByteArray).size ≤ 21 := by
        show (Lib.decDigits (n % 10)).toArray.size ≤ 21
        simpa using dec_len (n % 10) (by omega)
      obtain ⟨a, ha⟩ : ∃ a : ByteArray, (⟨(Lib.decDigits (n / 10)).toArray⟩ : ByteArray) = a := ⟨_, rfl⟩
      obtain ⟨b, hb⟩ : ∃ b : ByteArray, (⟨(Lib.decDigits (n % 10)).toArray⟩ : ByteArray) = b := ⟨_, rfl⟩
      simp only [ha] at c1 z1 HD
      simp only [hb] at c2 z2 HD
      clear ih ha hb
      have e1 : (n : Int).tdiv 10 = ((n / 10 : Nat) : Int) := by rw [Int.tdiv_eq_ediv_of_nonneg (by omega)]; omega
      have e2 : (n : Int).tmod 10 = ((n % 10 : Nat) : Int) := by rw [Int.tmod_eq_emod_of_nonneg (by omega)]; omega
      go_enter Tryd.func32, Tryd.ntmps32
      go_wp2_with fail
      refine (c1 w).mono ?_
      rintro e w1 ⟨rfl, rfl⟩
      go_wp2_with fail
      refine (c2 w1).mono ?_
      rintro e w2 ⟨rfl, rfl⟩
      go_wp2
      go_ret
      exact ⟨by rw [← HD.out]; rfl, rfl⟩
theorem decI_any (n : Int) (h0 : 0 ≤ n) (h1 : n ≤ 9223372036854775807) (w : World) : Calls Tryd.prog 32 #[.int .i64 n] w fun e w' => e = .returned (.string ⟨(Lib.itoa n).toArray⟩) ∧ w' = w := by
  obtain ⟨m, rfl⟩ : ∃ m : Nat, n = (m : Int) := ⟨n.toNat, by omega⟩
  have h := dec_any (m + 1) m w (by omega) (by omega)
  unfold DecPost at h
  rw [show Lib.itoa (m : Int) = Lib.decDigits m by unfold Lib.itoa; rw [if_neg (by omega)]; simp]
  exact h
set_option maxRecDepth 100000 in
theorem hows_any (w : World) : Calls Tryd.prog 31 #[] w fun e w' => e = .returned (.slice (some ⟨w.heap.size, 0, none⟩) 6 6) ∧ w' = w.alloc (.cells #[.string ⟨#[104, 105, 116]⟩, .string ⟨#[109, 105, 115, 115]⟩, .string ⟨#[99, 104, 101, 99, 107]⟩, .string ⟨#[100, 101, 110, 121]⟩, .string ⟨#[101, 114, 114, 111, 114]⟩, .string ⟨#[99, 111, 110, 115, 111, 108, 101]⟩] 9) := by
  go_enter Tryd.func31, Tryd.ntmps31
  go_wp2
  go_ret
  exact ⟨rfl, rfl⟩
def howsA : Array Value := #[.string ⟨#[104, 105, 116]⟩, .string ⟨#[109, 105, 115, 115]⟩, .string ⟨#[99, 104, 101, 99, 107]⟩, .string ⟨#[100, 101, 110, 121]⟩, .string ⟨#[101, 114, 114, 111, 114]⟩, .string ⟨#[99, 111, 110, 115, 111, 108, 101]⟩]
theorem hows_cell (k : Nat) (h : k < 6) : howsA[k]? = some (.string ⟨(wordL k).toArray⟩) := by
  match k, h with
  | 0, _ | 1, _ | 2, _ | 3, _ | 4, _ | 5, _ => rfl
theorem word_size (k : Nat) : (⟨(wordL k).toArray⟩ : ByteArray).size ≤ 7 := by
  show (wordL k).toArray.size ≤ 7
  unfold wordL
  split <;> decide
set_option maxRecDepth 100000 in
set_option maxHeartbeats 8000000 in
theorem refText_any (p : Nat) (L : Cs) (M : Int) (w : World) (h : IsRef p L w) (hf : Fair L M) (hM : M ≤ 9223372036854775807) :
    Calls Tryd.prog 23 #[.pointer (some ⟨p, 0, none⟩)] w fun e w' => e = .returned (.string ⟨(textL L).toArray⟩) ∧ Below w.heap.size w w' := by
  have hl := hf.len
  have HK : Hid (∀ x, Below w.heap.size w x → IsRef p L x) := Lib.hid (fun x hx => h.below hx)
  have HLL := Lib.hid (linesL_len hf hM)
  have HSU := Lib.hid (linesL_succ L)
  have HP : Hid (∀ k, 0 ≤ gI L k ∧ gI L k ≤ 9223372036854775807) := Lib.hid (fun k => by have := hf.pos k; omega)
  have HPS := Lib.hid h.lt
  clear h hf
  go_enter Tryd.func23, Tryd.ntmps23
  go_wp2
  go_loopw [3, 4] (fun x i wr => ∃ k : Nat, k ≤ 6 ∧ x = .string ⟨(linesL L k).toArray⟩ ∧ i = .int .i64 k ∧ Below w.heap.size w wr) (fun _ i _ => 6 - (intOf i).toNat)
  case atStart => exact ⟨0, Nat.zero_le _, rfl, rfl, Below.refl _ _⟩
  case round =>
    obtain ⟨k, hk, rfl, rfl, hbr⟩ := hrel
    have HBr := Lib.hid hbr
    have HBS := Lib.hid hbr.size
    clear hbr
    have hll := HLL.out k
    obtain ⟨S, hS⟩ : ∃ S : ByteArray, (⟨(linesL L k).toArray⟩ : ByteArray) = S := ⟨_, rfl⟩
    have hSs : S.size ≤ 240 := by
      rw [← hS]
      show (linesL L k).toArray.size ≤ 240
      simp
      omega
    rw [hS]
    by_cases hlt : k < 6
    · obtain ⟨n, hn⟩ : ∃ n, gI L k = n := ⟨_, rfl⟩
      have hp := HP.out k
      rw [hn] at hp
      have htz := itoa_size n hp.1 hp.2
      have hwz := word_size k
      have hcw : (wr.alloc (.cells #[.string ⟨#[104, 105, 116]⟩, .string ⟨#[109, 105, 115, 115]⟩, .string ⟨#[99, 104, 101, 99, 107]⟩, .string ⟨#[100, 101, 110, 121]⟩, .string ⟨#[101, 114, 114, 111, 114]⟩, .string ⟨#[99, 111, 110, 115, 111, 108, 101]⟩] 9)).cell? ⟨wr.heap.size, k, none⟩ = some (.string ⟨(wordL k).toArray⟩) := (Lib.cell_of_heap (heap_alloc_new wr _) k).trans (hows_cell k hlt)
      have HTE : Hid (S ++ ⟨(wordL k).toArray⟩ ++ ⟨#[32]⟩ ++ ⟨(Lib.itoa n).toArray⟩ ++ ⟨#[10]⟩ = (⟨(linesL L (k + 1)).toArray⟩ : ByteArray)) := Lib.hid (by
        rw [HSU.out k, ← hS]
        apply bytesE
        simp [lineL, ByteArray.data_append, hn])
      have hc4 : wr.cell? ⟨p, k, none⟩ = some (.int .i64 n) := ((HK.out wr HBr.out).cell (k := k) (by omega)).trans (by rw [hn])
      have hc2 : (wr.alloc (.cells #[.string ⟨#[104, 105, 116]⟩, .string ⟨#[109, 105, 115, 115]⟩, .string ⟨#[99, 104, 101, 99, 107]⟩, .string ⟨#[100, 101, 110, 121]⟩, .string ⟨#[101, 114, 114, 111, 114]⟩, .string ⟨#[99, 111, 110, 115, 111, 108, 101]⟩] 9)).cell? ⟨p, k, none⟩ = some (.int .i64 n) := ((StatAt.below (HK.out wr HBr.out) ((Spares.refl nowhere wr).alloc _).below0).cell (k := k) (by omega)).trans (by rw [hn])
      have hc0 : wr.drew.cell? ⟨p, k, none⟩ = some (.int .i64 n) := hc4
      have hc1 : (wr.drew.alloc (.cells #[.string ⟨#[104, 105, 116]⟩, .string ⟨#[109, 105, 115, 115]⟩, .string ⟨#[99, 104, 101, 99, 107]⟩, .string ⟨#[100, 101, 110, 121]⟩, .string ⟨#[101, 114, 114, 111, 114]⟩, .string ⟨#[99, 111, 110, 115, 111, 108, 101]⟩] 9)).cell? ⟨p, k, none⟩ = some (.int .i64 n) := hc2
      have hc3 : (wr.alloc (.cells #[.string ⟨#[104, 105, 116]⟩, .string ⟨#[109, 105, 115, 115]⟩, .string ⟨#[99, 104, 101, 99, 107]⟩, .string ⟨#[100, 101, 110, 121]⟩, .string ⟨#[101, 114, 114, 111, 114]⟩, .string ⟨#[99, 111, 110, 115, 111, 108, 101]⟩] 9)).drew.cell? ⟨p, k, none⟩ = some (.int .i64 n) := hc2
      have hcw1 : (wr.drew.alloc (.cells #[.string ⟨#[104, 105, 116]⟩, .string ⟨#[109, 105, 115, 115]⟩, .string ⟨#[99, 104, 101, 99, 107]⟩, .string ⟨#[100, 101, 110, 121]⟩, .string ⟨#[101, 114, 114, 111, 114]⟩, .string ⟨#[99, 111, 110, 115, 111, 108, 101]⟩] 9)).cell? ⟨wr.heap.size, k, none⟩ = some (.string ⟨(wordL k).toArray⟩) := hcw
      have hcw2 : (wr.alloc (.cells #[.string ⟨#[104, 105, 116]⟩, .string ⟨#[109, 105, 115, 115]⟩, .string ⟨#[99, 104, 101, 99, 107]⟩, .string ⟨#[100, 101, 110, 121]⟩, .string ⟨#[101, 114, 114, 111, 114]⟩, .string ⟨#[99, 111, 110, 115, 111, 108, 101]⟩] 9)).drew.cell? ⟨wr.heap.size, k, none⟩ = some (.string ⟨(wordL k).toArray⟩) := hcw
      have HB2 : Hid (Below w.heap.size w (wr.alloc (.cells #[.string ⟨#[104, 105, 116]⟩, .string ⟨#[109, 105, 115, 115]⟩, .string ⟨#[99, 104, 101, 99, 107]⟩, .string ⟨#[100, 101, 110, 121]⟩, .string ⟨#[101, 114, 114, 111, 114]⟩, .string ⟨#[99, 111, 110, 115, 111, 108, 101]⟩] 9)).drew) := Lib.hid (HBr.out.trans (((Spares.refl nowhere wr).alloc _).drew.below0.mono HBS.out))
      have CD := Lib.hid (decI_any n hp.1 hp.2)
      obtain ⟨wd, hwd⟩ : ∃ wd : ByteArray, (⟨(wordL k).toArray⟩ : ByteArray) = wd := ⟨_, rfl⟩
      rw [hwd] at hwz HTE hcw hcw1 hcw2
      obtain ⟨tx, htx⟩ : ∃ tx : ByteArray, (⟨(Lib.itoa n).toArray⟩ : ByteArray) = tx := ⟨_, rfl⟩
      rw [htx] at htz HTE CD
      clear htx hn hp hS hwd hll
      go_wp2
      go_region_with
        (first
          | (go_at_call 31
             refine (hows_any _).mono ?_
             rintro e w2 ⟨rfl, rfl⟩)
          | (go_at_call 32
             refine (CD.out _).mono ?_
             rintro e w2 ⟨rfl, rfl⟩))
      all_goals
        go_wp2
        go_roundw
        case rel => exact ⟨k + 1, by omega, by rw [← HTE.out], by go_num, HB2.out⟩
        case measure => simp [intOf]; omega
    · obtain rfl : k = 6 := by omega
      obtain ⟨n, hn⟩ : ∃ n, gI L 44 = n := ⟨_, rfl⟩
      have hp := HP.out 44
      rw [hn] at hp
      have htz := itoa_size n hp.1 hp.2
      have HTE : Hid (S ++ ⟨#[98, 121, 116, 101, 115, 32]⟩ ++ ⟨(Lib.itoa n).toArray⟩ ++ ⟨#[10]⟩ = (⟨(textL L).toArray⟩ : ByteArray)) := Lib.hid (by
        unfold textL
        rw [← hS]
        apply bytesE
        simp [lastL, ByteArray.data_append, hn])
      have hc4 : wr.cell? ⟨p, 44, none⟩ = some (.int .i64 n) := ((HK.out wr HBr.out).cell (k := 44) (by omega)).trans (by rw [hn])
      have CD := Lib.hid (decI_any n hp.1 hp.2)
      obtain ⟨tx, htx⟩ : ∃ tx : ByteArray, (⟨(Lib.itoa n).toArray⟩ : ByteArray) = tx := ⟨_, rfl⟩
      rw [htx] at htz HTE CD
      clear htx hn hp hS hll
      go_wp2_with fail
      refine (CD.out _).mono ?_
      rintro e w2 ⟨rfl, rfl⟩
      go_wp2
      go_ret
      exact ⟨by rw [← HTE.out]; rfl, HBr.out⟩
end Go.Proofs.YtdppmmoidofgmaaDoor
