/-
  The reference's hexadecimal text.
-/
import Derived.Test.YtkfnebpooohflaaDoorChunkBytes
import Derived.Deep.RegionLaw
import Derived.Deep.QuietTactic
namespace Go.Proofs.YtkfnebpooohflaaDoor
open Go.RowKit HeadMath NormMath NormS ChunkMath

def hexS (n : Nat) : ByteArray := ⟨(hexT n).toArray⟩
def lit16 : ByteArray := ⟨#[48, 49, 50, 51, 52, 53, 54, 55, 56, 57, 97, 98, 99, 100, 101, 102]⟩
theorem lit_one (k : Nat) (h : k < 16) : lit16.extract k (k + 1) = ⟨#[hexD k]⟩ := by
  have H : ∀ k : Fin 16, (lit16.extract k.val (k.val + 1)).data.toList = [hexD k.val] := by decide
  have := H ⟨k, h⟩
  generalize lit16.extract k (k + 1) = x at this
  cases x
  congr 1
  exact Array.toList_inj.1 this
theorem hexS_one {n : Nat} (h : n < 16) : hexS n = lit16.extract n (n + 1) := by rw [lit_one n h, hexS, hexT_one h]
theorem hexS_more {n : Nat} (h : ¬ n < 16) : hexS n = hexS (n / 16) ++ lit16.extract (n % 16) (n % 16 + 1) := by
  rw [lit_one _ (by omega)]
  unfold hexS
  rw [hexT_more h]
  have : (hexT (n / 16) ++ [hexD (n % 16)]).toArray = ((⟨(hexT (n / 16)).toArray⟩ : ByteArray) ++ ⟨#[hexD (n % 16)]⟩).data := by
    rw [ByteArray.data_append]; simp
  rw [this]
theorem hexS_size (n : Nat) (h : n < 4294967296) : (hexS n).size ≤ 8 := by
  have := hexT_len 7 n (by rw [show (16 : Nat) ^ (7 + 1) = 4294967296 from by decide]; exact h)
  show (hexT n).toArray.size ≤ 8
  simpa using this
def HexPostR (n : Nat) (w : World) (e : Ending) (w' : World) : Prop := e = .returned (.string (hexS n)) ∧ ∃ m, w' = w.drewN m
set_option maxRecDepth 100000 in
set_option maxHeartbeats 4000000 in
theorem hexText_any : ∀ (f n : Nat) (w : World), n < f → n < 4294967296 → Calls Tryd.prog 25 #[.int .i64 n] w (HexPostR n w)
  | 0, n, w, h, _ => by omega
  | f + 1, n, w, h, hn => by
    unfold HexPostR
    by_cases h16 : n < 16
    · have HD := Lib.hid (hexS_one h16)
      go_enter Tryd.func25, Tryd.ntmps25
      go_wp2
      go_ret
      exact ⟨by rw [HD.out]; rfl, 0, rfl⟩
    · have HD := Lib.hid (hexS_more h16)
      have c1 := fun w : World => hexText_any f (n / 16) w (by omega) (by omega)
      unfold HexPostR at c1
      have hz := hexS_size (n / 16) (by omega)
      obtain ⟨A, hA⟩ : ∃ A, hexS (n / 16) = A := ⟨_, rfl⟩
      obtain ⟨k, hk⟩ : ∃ k, n % 16 = k := ⟨_, rfl⟩
      have hk16 : k < 16 := by omega
      rw [hk] at HD
      rw [hA] at HD hz
      simp only [hA] at c1
      have e0 : ((n / 16 : Nat) : Int) = (n : Int) / 16 := by omega
      simp only [e0] at c1
      have e1 : (n : Int).tdiv 16 = (n : Int) / 16 := Int.tdiv_eq_ediv_of_nonneg (by omega)
      have e2 : (n : Int).tmod 16 = (k : Int) := by rw [Int.tmod_eq_emod_of_nonneg (by omega)]; omega
      have e4 : (n : Int) % 16 = (k : Int) := by omega
      have CC : Hid (∀ (w : World) (j : Nat), Calls Tryd.prog 25 #[.int .i64 ((n : Int) / 16)] (w.drewN j) fun e w' => e = .returned (.string A) ∧ ∃ m, w' = w.drewN m) := Lib.hid (fun w j => (c1 (w.drewN j)).mono (fun e w' h => ⟨h.1, by obtain ⟨m, hm⟩ := h.2; exact ⟨_, by rw [hm, World.drewN_drewN]⟩⟩))
      have k16 : (k : Int) + 1 ≤ 16 := by omega
      have k0 : (0 : Int) ≤ (k : Int) := by omega
      clear hA c1 hk e0
      go_enter Tryd.func25, Tryd.ntmps25
      go_wp2
      go_quiet ((go_at_call 25; exact CC.out _ _))
      go_wp2
      go_ret
      exact ⟨by rw [HD.out]; rfl, nq, rfl⟩
end Go.Proofs.YtkfnebpooohflaaDoor
