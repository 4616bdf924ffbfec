/-
  FragCuts: a fragment that is cut off anywhere isn't read.
-/
import Derived.Test.YtimpnnhadjfijaaDoorFragArgs
namespace Go.Proofs.YtimpnnhadjfijaaDoor
open Go.RowKit CrcMath

def Placed (n : Nat) (w : World) (e : Ending) (w' : World) : Prop := ∃ k : Nat, k < n ∧ e = .returned (.int .i64 k) ∧ w = w'
set_option maxHeartbeats 1000000 in
theorem place_any (x : Int) (n : Nat) (w : World) (h0 : 0 < n) (hn : n ≤ 140737488355328) (_h1 : -9223372036854775808 ≤ x) (_h2 : x < 9223372036854775808) :
    Calls Tryd.prog 16 #[.int .i64 x, .int .i64 n] w (Placed n w) := by
  obtain ⟨r, hr⟩ : ∃ r, x.tmod (n : Int) = r := ⟨_, rfl⟩
  have hlt : r < (n : Int) := by rw [← hr]; exact Int.tmod_lt_of_pos x (by omega)
  have hge : -(n : Int) < r := by
    rw [← hr]
    have := Int.tmod_lt_of_pos (-x) (b := (n : Int)) (by omega)
    rw [Int.neg_tmod] at this
    omega
  have hnz : ¬ (n : Int) = 0 := by omega
  by_cases hneg : r < 0
  · obtain ⟨k, hk⟩ : ∃ k : Nat, r + (n : Int) = (k : Int) := ⟨(r + (n : Int)).toNat, by omega⟩
    have hkn : k < n := by omega
    go_enter Tryd.func16, Tryd.ntmps16
    go_wp2
    go_ret
    exact ⟨k, hkn, rfl, rfl⟩
  · obtain ⟨k, hk⟩ : ∃ k : Nat, r = (k : Int) := ⟨r.toNat, by omega⟩
    subst hk
    have hkn : k < n := by omega
    go_enter Tryd.func16, Tryd.ntmps16
    go_wp2
    go_ret
    exact ⟨k, hkn, rfl, rfl⟩
theorem part_nat (x : Int) : ∃ P : Nat, IntKind.u32.wrap x = (P : Int) ∧ P < 4294967296 := by
  refine ⟨(IntKind.u32.wrap x).toNat, ?_, ?_⟩ <;> rw [IntKind.wrap_u32] <;> omega

set_option maxRecDepth 100000 in
set_option maxHeartbeats 4000000 in
theorem cuts_any (F : FragD) (a : Option Addr) (n c : Nat) (l : List UInt8) (at_ : Int) (w : World) (hT : Steps w) (hK : F.K.length = 32) (hS : F.S.length = 32) (ht : F.turn < 18446744073709551616) (hl : BytesAt w a l) (hn : n = l.length) (hnil : a = none → c = 0) (hnc : n ≤ c) (hmax : n < 9223372036854775808)
    (h1 : -9223372036854775808 ≤ at_) (h2 : at_ < 9223372036854775808) :
    Calls Tryd.prog 8 #[.agg (fragA F), .slice a n c, .int .i64 at_] w (Knows w) := by
  obtain ⟨P, hP, hPl⟩ := part_nat F.part
  obtain ⟨v1, hv1⟩ : ∃ v1, w.alloc (.cells (fragA F) 26) = v1 := ⟨_, rfl⟩
  have HV1 := Lib.hid hv1
  have hs1 : Spares nowhere w v1 := by rw [← hv1]; exact (Spares.refl _ w).alloc _
  have HG1 : Hid (v1.heap[w.heap.size]? = some (.cells (fragA F) 26 (0, 0))) := Lib.hid (by rw [← hv1]; exact heap_alloc_new w _)
  have HK1 := Lib.hid (known_any v1 (hT.spares hs1 (fun h => h)))
  have HS1 := Lib.hid hs1
  have HT := Lib.hid hT
  have HL := Lib.hid hl
  have HN := Lib.hid hn
  have HNIL := Lib.hid hnil
  have HK := Lib.hid hK
  have HS := Lib.hid hS
  have HTU := Lib.hid ht
  have HI := Lib.hid (sizeFrag F hK hS)
  clear hv1 hs1 hT hl hn hnil hK hS ht
  go_enter Tryd.func8, Tryd.ntmps8
  go_wp2_with fail
  change Calls _ _ _ (w.alloc (.cells (fragA F) 26)) _
  rw [HV1.out]
  refine HK1.out.mono ?_
  rintro e v2 ⟨rfl, hs2⟩
  have HS2 := Lib.hid (HS1.out.trans hs2)
  have HG2 := Lib.hid (hs2.heap HG1.out (fun h => h))
  clear hs2 HK1
  by_cases hbig : 500 < n
  · have i1 : (500 : Int) < (n : Int) := by omega
    go_wp2
    go_ret
    exact ⟨rfl, HS2.out⟩
  · have i1 : ¬ (500 : Int) < (n : Int) := by omega
    have HF := Lib.hid (frag_any F P n a n c l v2 (HT.out.spares HS2.out (fun h => h)) (HL.out.spares HS2.out (fun _ _ _ h => h)) HN.out HNIL.out hnc (by omega) HK.out HS.out hP (by omega))
    have hb5 : l.length ≤ 4096 := by have := HN.out; omega
    have hcut := fun k hk => cut_bad (last := F.last) (body := l) HK.out hPl HTU.out hb5 k hk
    have hlen := fragB_len F.K P F.last F.turn l HK.out
    have htk : l.take n = l := List.take_of_length_le (by have := HN.out; omega)
    rw [htk] at HF
    obtain ⟨L, hL⟩ : ∃ L, fragB F.K P F.last F.turn l = L := ⟨_, rfl⟩
    rw [hL] at HF hcut hlen
    obtain ⟨m, hm⟩ : ∃ m, L.length = m := ⟨_, rfl⟩
    have hm1 : 89 ≤ m := by omega
    have hm2 : m ≤ 589 := by have := HN.out; omega
    have HM := Lib.hid hm
    have HC := Lib.hid hcut
    clear hcut hlen htk hL hm hb5
    go_wp2_with ((with_reducible show wpList _ _ _ (⟨some 16, .load 26 _, _, _, _, _⟩ :: _) _ _); refine wpList_load_row rfl 26 (.tmp 3) rfl w.heap.size rfl 26 _ (0, 0) _ HG2.out Tryd.underlying26 rfl HI.out ?_)
    refine HF.out.mono ?_
    rintro e v3 ⟨a3, c3, rfl, ho3, hs3, _⟩
    rw [HM.out] at ho3
    rw [HM.out]
    obtain ⟨_, _, e3, hat3, hn3, hc3⟩ := Row8.shape (B := 0) (show Row8 0 v3 _ L from ho3)
    injection e3 with e31 e32 e33
    subst e31; subst e33
    rw [HM.out] at hc3
    have HS3 := Lib.hid (HS2.out.trans hs3)
    have HA3 := Lib.hid hat3
    clear ho3 hs3 e32 hat3 HF HG2
    go_wp2_with fail
    refine (place_any at_ m v3 (by omega) (by omega) h1 h2).mono ?_
    rintro e v4 ⟨k, hk, rfl, rfl⟩
    have HB : Hid (openOK (L.take k) = false) := Lib.hid (HC.out k (by have := HM.out; omega))
    have HO := Lib.hid (openFrag_any a3 k c3 (L.take k) v3 (HT.out.spares HS3.out (fun h => h)) (bytesAt_takeF k HA3.out) (by have := HM.out; rw [List.length_take]; omega) (by omega) (by omega))
    have hkc : (k : Int) ≤ (c3 : Int) := by omega
    go_wp2_with fail
    refine HO.out.mono ?_
    rintro e v5 ⟨a5, c5, rfl, _, _, hs5⟩
    rw [show openD (L.take k) = zeroD by unfold openD; rw [HB.out]; rfl, show openE (L.take k) = 40 by unfold openE; rw [HB.out]; rfl]
    obtain ⟨g1, g2, g3⟩ := frag_new (w := v5) (G := zeroD) rfl rfl
    have HT6 := Lib.hid g1
    have HI6 := Lib.hid (sizeFrag zeroD rfl rfl)
    have HS6 := Lib.hid ((HS3.out.trans hs5).trans g3)
    clear hs5 g1 g2 g3 HO HB hkc
    go_wp2_with ((with_reducible show wpList _ _ _ (⟨none, .store 26 _ _, _, _, _, _⟩ :: _) _ _); refine wpList_store_mid rfl 26 (.tmp 8) (.tmp 30) rfl v5.heap.size 0 (fragA zeroD) rfl rfl HT6.out HI6.out (fragA_one _) ?_)
    go_ret
    exact ⟨rfl, HS6.out⟩
end Go.Proofs.YtimpnnhadjfijaaDoor
