/-
  ChunkGreat's walk.
-/
import Derived.Test.YtkfnebpooohflaaDoorChunkBack
import Derived.Test.YtkfnebpooohflaaDoorCodeCuts
import Derived.Test.YtkfnebpooohflaaDoorShaEnd
import Derived.Deep.RegionLaw
namespace Go.Proofs.YtkfnebpooohflaaDoor
open Go.RowKit HeadMath NormMath NormS HeadS ChunkMath

/-- What Open answers to M bytes in chunks. -/
def GreatPost (M : Nat) (w : World) (e : Ending) (w' : World) : Prop := (∃ (k er : Int) (a : Option Addr) (n c : Nat), e = .returned (.tuple #[.slice a n c, .int .i64 k, .int .i64 er]) ∧ (M ≤ 65536 ∧ er = 0 ∧ n = M ∨ 65536 < M ∧ er = 93 ∧ n = 0)) ∧ Spares nowhere w w'
theorem great_open (S : Nat) (hS : 1 ≤ S) (Z : Bs) (hM : Z.length ≤ 65538) (a : Option Addr) (c : Nat) (w : World) (hb : BytesAt w a (bytesF S Z)) (hc : (bytesF S Z).length ≤ c) : Calls Tryd.prog 10 #[.slice a (bytesF S Z).length c] w (GreatPost Z.length w) := by
  have hlen := (bytesF_len S hS Z (by omega)).1
  refine (open_any a c (bytesF S Z) w hb hc (by omega)).mono ?_
  rintro e w' ⟨h, hs⟩
  refine ⟨?_, hs⟩
  by_cases h1 : Z.length ≤ 65536
  · have h2 := open_back (F := fieldB) S hS Z [] h1
    rw [List.append_nil] at h2
    rw [h2] at h
    obtain ⟨v, rfl, hr⟩ := h
    obtain ⟨a1, c1, rfl, _, _, _⟩ := hr.shape
    exact ⟨_, _, _, _, _, rfl, .inl ⟨h1, rfl, rfl⟩⟩
  · have h2 := open_over (F := fieldB) S hS Z [] (by omega) (by omega)
    rw [List.append_nil] at h2
    rw [h2] at h
    exact ⟨_, _, _, _, _, h, .inr ⟨by omega, rfl, rfl⟩⟩
set_option maxRecDepth 100000 in
set_option maxHeartbeats 8000000 in
theorem great_any (n size : Int) (w : World) (hn : -9223372036854775808 ≤ n ∧ n ≤ 9223372036854775807) (hz : -9223372036854775808 ≤ size ∧ size ≤ 9223372036854775807) (hT : TabZ w) : Calls Tryd.prog 5 #[.int .i64 n, .int .i64 size] w (Knows w) := by
  have HK := Lib.hid (known_any w hT)
  have HZ := Lib.hid hz
  have HN := Lib.hid hn
  unfold Knows at HK ⊢
  clear hT hz hn
  go_enter Tryd.func5, Tryd.ntmps5
  go_wp2_with fail
  refine HK.out.mono ?_
  rintro e w1 ⟨rfl, hs1⟩
  have HW1 := Lib.hid hs1
  have cP : Calls Tryd.prog 16 #[.int .i64 n, .int .i64 5] w1 _ := place_any n 5 w1 (by omega) (by omega) HN.out
  clear hs1 HK
  go_wp2_with fail
  refine cP.mono ?_
  rintro e w2 ⟨⟨r, hr, rfl⟩, hw⟩
  subst hw
  obtain ⟨M, hM⟩ : ∃ M : Nat, 65534 + r = M := ⟨_, rfl⟩
  have e4 : (65534 : Int) + (r : Int) = (M : Int) := by omega
  have HMB : Hid (65534 ≤ M ∧ M ≤ 65538) := Lib.hid (by omega)
  have m1 : (M : Int) ≤ 65538 := by omega
  have hmk := fun W : World => make_bytes M (by have := HMB.out; omega) W
  have cQ : Hid (∀ W, Calls Tryd.prog 16 #[.int .i64 size, .int .i64 70000] W _) := Lib.hid (fun W => place_any size 70000 W (by omega) (by omega) HZ.out)
  obtain ⟨Z, hZ⟩ : ∃ Z : Bs, List.replicate M 0 = Z := ⟨_, rfl⟩
  have hZl : Z.length = M := by rw [← hZ, List.length_replicate]
  rw [hZ] at hmk
  have HAT : Hid (BytesAt (w1.alloc (.cells (bytesV Z) 5)).drew (some ⟨w1.heap.size, 0, none⟩) Z) := Lib.hid (bytesV_at (heap_alloc_new w1 (.cells (bytesV Z) 5)))
  have HSP : Hid (Spares nowhere w (w1.alloc (.cells (bytesV Z) 5)).drew) := Lib.hid ((HW1.out.alloc _).drew)
  have CR : Hid (∀ (z : Int) (a : Option Addr) (W : World), BytesAt W a Z → Calls Tryd.prog 12 #[.slice a M M, .int .i64 z] W (RowPost W.heap.size (bytesF (max z 1).toNat Z) W)) := Lib.hid (fun z a W h => by
    have h1 := refBytes_any a M Z z (max z 1).toNat W h (by omega) (by omega) (by omega)
    rwa [hZl] at h1)
  have CO : Hid (∀ (z : Int) (a : Option Addr) (c : Nat) (W : World), BytesAt W a (bytesF (max z 1).toNat Z) → (bytesF (max z 1).toNat Z).length ≤ c → Calls Tryd.prog 10 #[.slice a (bytesF (max z 1).toNat Z).length c] W (GreatPost M W)) := Lib.hid (fun z a c W h hc => by
    have h1 := great_open (max z 1).toNat (by omega) Z (by omega) a c W h hc
    rwa [hZl] at h1)
  unfold RowPost GreatPost at *
  clear hM hr cP hZ hZl
  go_wp2_with fail
  go_region_law
    (first
      | (go_simp
         go_at_call 16
         refine (cQ.out _).mono ?_
         rintro e w2 ⟨⟨k, hk, rfl⟩, hw⟩
         subst hw)
      | (go_simp
         go_at_call 12
         refine (CR.out _ _ _ HAT.out).mono ?_
         rintro e w3 ⟨v3, rfl, hr3, hs3⟩
         obtain ⟨a3, c3, hv3, hat3, hnn, hc3⟩ := hr3.shape
         subst hv3
         have HAT3 := Lib.hid hat3
         have HC3 := Lib.hid hc3
         have HS3 := Lib.hid (atLeast_none hs3 HSP.out.size HSP.out)
         clear hr3 hs3 hat3 hnn hc3)
      | (go_simp
         go_at_call 10
         refine (CO.out _ a3 c3 _ HAT3.out HC3.out).mono ?_
         rintro e w4 ⟨⟨k4, er, a4, n4, c4, rfl, hor⟩, hs4⟩
         have HS4 := Lib.hid (HS3.out.trans hs4)
         have HOR := Lib.hid hor
         clear hs4 hor))
  all_goals
    rcases HOR.out with ⟨hle, h1, h2⟩ | ⟨hgt, h1, h2⟩
    · have d1 : ¬ ((65536 : Int) < (M : Int)) := by omega
      subst h1
      subst h2
      clear hmk
      go_wp2
      go_ret
      exact ⟨rfl, HS4.out⟩
    · have d1 : (65536 : Int) < (M : Int) := by omega
      subst h1
      subst h2
      clear hmk
      go_wp2
      go_ret
      exact ⟨rfl, HS4.out⟩
end Go.Proofs.YtkfnebpooohflaaDoor
