/-
  ShaKeys: any parts' key is the reference's.
-/
import Derived.Test.YtfejnjgdgdhckaaShaSums
namespace Go.Proofs.Ytfejnjgdgdhckaa
open Go.RowKit

theorem keyText_bound : ∀ (ps : List ByteArray), (∀ p ∈ ps, p.size ≤ 300) → (keyText ps).length ≤ ps.length * 304
  | [], _ => by simp [keyText]
  | p :: ps, h => by
    have h1 := h p (List.mem_cons_self ..)
    have h2 := keyText_bound ps (fun q hq => h q (List.mem_cons_of_mem _ hq))
    have e : keyText (p :: ps) = be4 p.size ++ p.data.toList ++ keyText ps := by unfold keyText; rw [List.flatMap_cons]
    rw [e, List.length_append, List.length_append, toList_size, List.length_cons]
    have : (be4 p.size).length = 4 := rfl
    omega
set_option maxRecDepth 100000 in
set_option maxHeartbeats 1000000 in
theorem keys_any (a : Option Addr) (n c : Nat) (ps : List ByteArray) (w : World) (hl : StrsAt w a ps) (hn : n = ps.length) (hn63 : n < 9223372036854775808) (hsz : ∀ p ∈ ps, p.size ≤ 9223372036854775807) :
    Calls Try.prog 4 #[.slice a n c] w fun e w' => e = .returned (.bool true) ∧ Spares nowhere w w' := by
  have HL := Lib.hid hl
  have HN := Lib.hid hn
  have HSZ := Lib.hid hsz
  have HK := Lib.hid (known_any w)
  clear hl hn hsz
  go_enter Try.func4, Try.ntmps4
  go_wp2_with fail
  refine HK.out.mono ?_
  rintro e w1 ⟨rfl, hs1⟩
  have HS1 := Lib.hid hs1
  clear hs1 HK
  by_cases hbig : 20 < n
  · have i1 : (20 : Int) < (n : Int) := by omega
    go_wp2
    go_ret
    exact ⟨rfl, HS1.out⟩
  have i1 : ¬ (20 : Int) < (n : Int) := by omega
  go_wp2
  go_loopw [3] (fun i wr => ∃ k : Nat, k ≤ n ∧ i = .int .i64 k ∧ wr = w1 ∧ Hid (∀ j (h : j < ps.length), j < k → (ps[j]).size ≤ 300)) (fun i _ => n - (intOf i).toNat)
  case atStart => exact ⟨0, by omega, rfl, rfl, Lib.hid (fun j _ h => by omega)⟩
  case round =>
    obtain ⟨k, hk, rfl, rfl, HSM⟩ := hrel
    by_cases hlt : k < n
    · have hk2 : k < ps.length := by have := HN.out; omega
      obtain ⟨b, off, rfl, hc⟩ := (HL.out.spares HS1.out (fun _ _ _ h => h)) k hk2
      obtain ⟨p, hp⟩ : ∃ p, ps[k] = p := ⟨_, rfl⟩
      have hpz : p.size ≤ 9223372036854775807 := HSZ.out p (by rw [← hp]; exact List.getElem_mem hk2)
      rw [hp] at hc
      obtain ⟨z, hz⟩ : ∃ z, p.size = z := ⟨_, rfl⟩
      rw [hz] at hpz
      have HP := Lib.hid (show ps[k].size = z by rw [hp, hz])
      have j1 : (k : Int) < (n : Int) := by omega
      have j2 : (z : Int) ≤ 9223372036854775807 := by omega
      clear hp
      by_cases hb : 300 < z
      · have j3 : (300 : Int) < (z : Int) := by omega
        go_wp2
        go_ret
        exact ⟨rfl, HS1.out⟩
      · have j3 : ¬ (300 : Int) < (z : Int) := by omega
        go_wp2
        go_roundw
        case rel =>
          refine ⟨k + 1, by omega, by go_num, trivial, Lib.hid (fun j h hj => ?_)⟩
          by_cases e : j = k
          · subst e; rw [HP.out]; omega
          · exact HSM.out j h (by omega)
        case measure => simp [intOf]; omega
    · obtain rfl : k = n := by omega
      have hall : ∀ p ∈ ps, p.size ≤ 300 := fun p hp => by
        obtain ⟨j, hj, rfl⟩ := List.getElem_of_mem hp
        exact HSM.out j hj (by have := HN.out; omega)
      have hbound := keyText_bound ps hall
      have hb2 : (keyText ps).length ≤ 6080 := by have := HN.out; omega
      have HA := Lib.hid (key_any a k c ps wr (HL.out.spares HS1.out (fun _ _ _ h => h)) HN.out (by omega) hn63)
      have hke := key_self (shaF (keyText ps)) (shaF_len _)
      obtain ⟨X, hX⟩ : ∃ X, shaF (keyText ps) = X := ⟨_, rfl⟩
      rw [hX] at HA hke
      have HB2 := Lib.hid hb2
      have HX := Lib.hid hX
      clear hall hbound hb2 hX HSM
      go_wp2_with fail
      refine HA.out.mono ?_
      rintro e w2 ⟨rfl, hs2⟩
      have HS2 := Lib.hid (HS1.out.trans hs2)
      have hB := refKey_any a k c ps w2 (HL.out.spares HS2.out (fun _ _ _ h => h)) HN.out (by have := HB2.out; omega) hn63
      rw [HX.out] at hB
      have HB := Lib.hid hB
      clear hB hs2 HA
      go_wp2_with fail
      refine HB.out.mono ?_
      rintro e w3 ⟨rfl, hs3⟩
      have HS3 := Lib.hid (HS2.out.trans hs3)
      clear hs3
      go_wp2
      go_ret
      exact ⟨rfl, HS3.out⟩
end Go.Proofs.Ytfejnjgdgdhckaa
