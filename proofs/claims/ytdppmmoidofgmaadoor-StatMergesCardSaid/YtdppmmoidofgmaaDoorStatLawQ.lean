/-
  The law of quantiles: its walk.
-/
import Derived.Test.YtdppmmoidofgmaaDoorStatKnown
import Derived.Test.YtdppmmoidofgmaaDoorStatQMath
namespace Go.Proofs.YtdppmmoidofgmaaDoor
open Go.RowKit

/-- A row of numbers of 32 bits. -/
def U32At (w : World) (a : Option Addr) (zs : List Int) : Prop :=
  ∀ k (h : k < zs.length), ∃ b off, a = some ⟨b, off, none⟩ ∧ w.cell? ⟨b, off + k, none⟩ = some (.int .u32 zs[k]) ∧ 0 ≤ zs[k] ∧ zs[k] ≤ 4294967295
theorem U32At.below {w w' : World} {a : Option Addr} {l : List Int} (h : U32At w a l) (hb : Below w.heap.size w w') : U32At w' a l := by
  intro k hk
  obtain ⟨b, off, rfl, hc, hz⟩ := h k hk
  have hlt : b < w.heap.size := by
    rcases Nat.lt_or_ge b w.heap.size with h | h
    · exact h
    · simp [World.cell?, Array.getElem?_eq_none h] at hc
  exact ⟨b, off, rfl, ((Below.spares (F := nowhere) hb (fun k hk => .inr hk)).cell (p := ⟨b, off + k, none⟩) hlt (fun h => h)).trans hc, hz⟩
def sizL (zs : List Int) : List Int := zs.map (· % 1073741824)
theorem sizL_small (zs : List Int) : Small (sizL zs) := by
  intro s hs
  obtain ⟨z, _, rfl⟩ := List.mem_map.1 hs
  omega
theorem sizL_take (zs : List Int) (k : Nat) (h : k < zs.length) : sizL (zs.take (k + 1)) = sizL (zs.take k) ++ [zs[k] % 1073741824] := by
  unfold sizL
  rw [List.take_succ_eq_append_getElem h, List.map_append]
  rfl
set_option maxRecDepth 100000 in
set_option maxHeartbeats 4000000 in
theorem quantiles_law (a : Option Addr) (n c : Nat) (zs : List Int) (x y : Int) (w : World) (hn : zs.length = n) (ha : U32At w a zs) (hnm : n ≤ maxLen) (hx : 0 ≤ x ∧ x ≤ 255) (hy : 0 ≤ y ∧ y ≤ 255) (ht : TabW w) :
    Calls Tryd.prog 5 #[.slice a n c, .int .u8 x, .int .u8 y] w fun e w' => e = .returned (.bool true) ∧ Below w.heap.size w w' := by
  have HT := Lib.hid ht
  have HA := Lib.hid ha
  have HN := Lib.hid hnm
  clear ht ha hnm
  go_enter Tryd.func5, Tryd.ntmps5
  go_wp2_with fail
  refine (known_any _ HT.out).mono ?_
  rintro e w1 ⟨rfl, hb1⟩
  by_cases h0 : n = 0
  · subst h0
    go_wp2
    go_ret
    exact ⟨rfl, hb1⟩
  by_cases h100 : 100 < n
  · have hn0 : ((n : Int) == 0) = false := by rw [beq_eq_false_iff_ne]; omega
    go_wp2
    go_ret
    exact ⟨rfl, hb1⟩
  have hn0 : ((n : Int) == 0) = false := by rw [beq_eq_false_iff_ne]; omega
  have hn1 : ¬ ((100 : Int) < (n : Int)) := by omega
  have HB1 := Lib.hid hb1
  clear hb1
  go_wp2_with fail
  refine (new_any _).mono ?_
  rintro e w2 ⟨rfl, rfl⟩
  obtain ⟨p, hp⟩ : ∃ p, w1.heap.size = p := ⟨_, rfl⟩
  have h2 := alloc_stat 56 w1
  have hwp : w.heap.size ≤ p := by rw [← hp]; exact HB1.out.size
  have hb2 : Below w.heap.size w (w1.alloc (.cells zeroA 56)) := HB1.out.trans (((Spares.refl nowhere w1).alloc _).below0.mono (by omega))
  rw [hp] at h2 ⊢
  obtain ⟨w2, hw2⟩ : ∃ w2, w1.alloc (.cells zeroA 56) = w2 := ⟨_, rfl⟩
  rw [hw2] at h2 hb2 ⊢
  have H2 : Hid (IsStat p (cntF (sizL (zs.take 0))) w2) := Lib.hid h2
  have HB2 := Lib.hid hb2
  clear h2 hb2 hw2
  go_wp2
  go_loopw [8, 9] (fun m i wr => ∃ k : Nat, k ≤ n ∧ i = .int .i64 k ∧ m = .int .i64 (mostF (sizL (zs.take k))) ∧ IsStat p (cntF (sizL (zs.take k))) wr ∧ Below w.heap.size w wr) (fun _ i _ => n - (intOf i).toNat)
  case atStart => exact ⟨0, by omega, rfl, rfl, H2.out, HB2.out⟩
  case round =>
    obtain ⟨k, hk, rfl, rfl, hst, hbr⟩ := hrel
    have HBr := Lib.hid hbr
    have HST := Lib.hid hst
    clear hbr hst
    by_cases hlt : k < n
    · have hkz : k < zs.length := by omega
      obtain ⟨b, off, rfl, hc, hz0, hz1⟩ := (HA.out.below HBr.out) k hkz
      obtain ⟨z, hz⟩ : ∃ z, zs[k] = z := ⟨_, rfl⟩
      rw [hz] at hc hz0 hz1
      have HS : Hid (sizL (zs.take (k + 1)) = sizL (zs.take k) ++ [z % 1073741824]) := Lib.hid (by rw [← hz]; exact sizL_take zs k hkz)
      obtain ⟨l, hl⟩ : ∃ l, sizL (zs.take k) = l := ⟨_, rfl⟩
      have hll : l.length = k := by rw [← hl]; simp [sizL]; omega
      rw [hl] at HST HS ⊢
      have HC : Hid (cntF (sizL (zs.take (k + 1))) = addF (cntF l) 0 200 (z % 1073741824)) := Lib.hid (by rw [HS.out, cnt_snoc])
      have HM : Hid (mostF (sizL (zs.take (k + 1))) = max (mostF l) (z % 1073741824)) := Lib.hid (by rw [HS.out, most_snoc])
      have hfm : (l.length : Int) * 1073741827 + 1073741827 ≤ 9223372036854775807 := by rw [hll]; omega
      go_wp2_with fail
      refine (add_any p (cntF l) 0 200 (z % 1073741824) (l.length * 1073741827) wr HST.out (cnt_fair l) hfm (by decide)).mono ?_
      rintro e w3 ⟨rfl, h3, hs3⟩
      rw [← HC.out] at h3
      have HB3 : Hid (Below w.heap.size w w3) := Lib.hid (HBr.out.trans (hs3.below HBr.out.size (fun j hj e => by omega)))
      have H3 := Lib.hid h3
      have hc3 : w3.cell? ⟨b, off + k, none⟩ = some (.int .u32 z) := by
        obtain ⟨b', off', hbe, hc', _, _⟩ := (HA.out.below HB3.out) k hkz
        injection hbe with hbe
        injection hbe with hb1 hb2
        subst hb1 hb2
        rw [hz] at hc'
        exact hc'
      clear h3 hs3 hc
      go_wp2
      go_roundw
      case rel => exact ⟨k + 1, by omega, by go_num, by rw [HM.out], H3.out, HB3.out⟩
      case measure => simp [intOf]; omega
    · obtain rfl : k = n := by omega
      obtain ⟨l, hl⟩ : ∃ l, sizL (zs.take k) = l := ⟨_, rfl⟩
      have hll : l.length = k := by rw [← hl]; simp [sizL]; omega
      have hsm : Small l := by rw [← hl]; exact sizL_small _
      have hne : l ≠ [] := fun e => by rw [e] at hll; exact h0 hll.symm
      rw [hl] at HST ⊢
      have HF := Lib.hid (cnt_fair l)
      have hfm : 32 * ((l.length : Int) * 1073741827) ≤ 4000000000000000000 := by rw [hll]; omega
      have HQ1 := Lib.hid (qu_mono (L := cntF l) (p := min x y) (q := max x y) (by unfold pctF; omega))
      have HQ2 := Lib.hid (qu_mono (L := cntF l) (p := max x y) (q := 100) (by unfold pctF; omega))
      have HQ3 := Lib.hid (qu_top_bd l hsm hne)
      have hm1 : IntKind.i64.wrap (min x y) = min x y := IntWalk.i64_in _ (by omega)
      have hm2 : IntKind.i64.wrap (max x y) = max x y := IntWalk.i64_in _ (by omega)
      clear hne
      go_wp2_with fail
      refine (quantile_any p (cntF l) (min x y) (l.length * 1073741827) wr HST.out HF.out hfm).mono ?_
      rintro e w3 ⟨rfl, hb3⟩
      have HST3 : Hid (IsStat p (cntF l) w3) := Lib.hid (StatAt.below HST.out hb3)
      have HB3 : Hid (Below w.heap.size w w3) := Lib.hid (HBr.out.trans (hb3.mono HBr.out.size))
      clear hb3
      go_wp2_with fail
      refine (quantile_any p (cntF l) (max x y) (l.length * 1073741827) w3 HST3.out HF.out hfm).mono ?_
      rintro e w4 ⟨rfl, hb4⟩
      have HST4 : Hid (IsStat p (cntF l) w4) := Lib.hid (StatAt.below HST3.out hb4)
      have HB4 : Hid (Below w.heap.size w w4) := Lib.hid (HB3.out.trans (hb4.mono HB3.out.size))
      clear hb4
      go_wp2_with fail
      refine (quantile_any p (cntF l) 100 (l.length * 1073741827) w4 HST4.out HF.out hfm).mono ?_
      rintro e w5 ⟨rfl, hb5⟩
      have HB5 : Hid (Below w.heap.size w w5) := Lib.hid (HB4.out.trans (hb5.mono HB4.out.size))
      clear hb5
      have q1 := HQ1.out
      have q2 := HQ2.out
      have q3 := HQ3.out
      obtain ⟨q3, q4⟩ := q3
      have hw2 : IntKind.i64.wrap (2 * mostF l) = 2 * mostF l := by
        have := most_in l hsm
        exact IntWalk.i64_in _ (by omega)
      clear hsm
      go_wp2
      go_ret
      exact ⟨rfl, HB5.out⟩
end Go.Proofs.YtdppmmoidofgmaaDoor
