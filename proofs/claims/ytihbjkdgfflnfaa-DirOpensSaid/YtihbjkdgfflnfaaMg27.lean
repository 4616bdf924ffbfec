/-
  Any bytes, and a directory's that are spoilt.
-/
import Derived.Deep.LoopGhost
import Derived.Deep.CutBlock
import Derived.Deep.DeepCutAuto
import Derived.Test.YtihbjkdgfflnfaaMg20
import Derived.Test.YtihbjkdgfflnfaaMg26
namespace Go.Proofs.Ytihbjkdgfflnfaa
open Go.RowKit
/-- Bytes in a slice. -/
structure Sli (W : World) (v : Value) (Y : List UInt8) : Prop where
  ex : ∃ a c, v = .slice a Y.length c ∧ BytesAt W a Y ∧ Y.length ≤ c ∧ c ≤ 9223372036854775807 ∧ Y.length ≤ 10000
set_option maxRecDepth 100000 in
set_option maxHeartbeats 16000000 in
theorem dirOpens_any (at_ : Int) (x cut : Nat) (hat9 : -9223372036854775808 ≤ at_ ∧ at_ ≤ 9223372036854775807) (_hx : x < 256) (hcut : cut < 65536) (a : Option Addr) (l : List Ac) (c : Nat) (g : Option Addr) (Y : List UInt8) (d : Nat) (w : World) (hat : ActsAt w a l) (hmax : l.length ≤ 9223372036854775807)
    (hgt : BytesAt w g Y) (hcap : Y.length ≤ d) (hdm : d ≤ 9223372036854775807) :
    Calls Try.prog 4 #[.slice a l.length c, .slice g Y.length d, .int .i64 at_, .int .u8 x, .int .u16 cut] w fun e w' => e = .returned (.bool true) ∧ Spares nowhere w w' := by
  have HAT := Lib.hid hat
  have HGT := Lib.hid hgt
  obtain ⟨L, hL⟩ : ∃ L, l.length = L := ⟨_, rfl⟩
  obtain ⟨M, hM⟩ : ∃ M, Y.length = M := ⟨_, rfl⟩
  rw [hL] at hmax ⊢
  rw [hM] at hcap ⊢
  have HL := Lib.hid hL
  have HM := Lib.hid hM
  clear hat hL hgt hM
  by_cases h60 : (60 : Int) < (L : Int)
  · have d60 : decide ((L : Int) ≤ 60) = false := decide_eq_false (by omega)
    go_enter Try.func4, Try.ntmps4
    go_wp2_with fail
    refine (known_any w).mono ?_
    rintro e v0 ⟨rfl, hs0⟩
    go_wp2_with fail
    refine (light_any _ L c v0).mono ?_
    rintro e v1 ⟨rfl, hv1⟩
    subst hv1
    rw [d60]
    go_wp2
    go_ret
    exact ⟨rfl, hs0⟩
  have d60 : decide ((L : Int) ≤ 60) = true := decide_eq_true (by omega)
  by_cases h500 : (500 : Int) < (M : Int)
  · go_enter Try.func4, Try.ntmps4
    go_wp2_with fail
    refine (known_any w).mono ?_
    rintro e v0 ⟨rfl, hs0⟩
    go_wp2_with fail
    refine (light_any _ L c v0).mono ?_
    rintro e v1 ⟨rfl, hv1⟩
    subst hv1
    rw [d60]
    go_wp2
    go_ret
    exact ⟨rfl, hs0⟩
  go_enter Try.func4, Try.ntmps4
  go_wp2_with fail
  refine (known_any w).mono ?_
  rintro e v0 ⟨rfl, hs0⟩
  go_wp2_with fail
  refine (light_any _ L c v0).mono ?_
  rintro e v1 ⟨rfl, hv1⟩
  subst hv1
  rw [d60]
  go_wp2_with fail
  refine (refNew_any 3 4 3 4 v0 (by decide) (by decide)).mono ?_
  rintro e x1 ⟨F, p, bk, R, rfl, hD, hs1, hF, hF2⟩
  have HI0 : Hid (RD p bk 3 4 w (List.replicate 3 []) x1) := Lib.hid ⟨⟨F, R, hD, fun k hk => ⟨Nat.le_trans hs0.size (hF k hk), hF2 k hk⟩⟩, hs0.trans hs1⟩
  clear hD hs0 hs1 hF hF2
  go_wp2
  go_loopw [12] (fun i wr => ∃ (q : Nat) (E : List (List Ent)), q ≤ L ∧ i = .int .i64 q ∧ Hid (RD p bk 3 4 w E wr)) (fun i _ => L - (intOf i).toNat)
  case atStart => exact ⟨0, _, by omega, rfl, HI0⟩
  case round =>
    obtain ⟨q, E, hq, rfl, HB⟩ := hrel
    by_cases hlt : q < L
    · obtain ⟨hin, tb, tt, rfl, hc⟩ := HAT.out q (by rw [HL.out]; exact hlt)
      obtain ⟨y, hy⟩ : ∃ y, l[q]'(by rw [HL.out]; exact hlt) = y := ⟨_, rfl⟩
      rw [hy] at hc hin
      obtain ⟨wh, k, x2, x3, x4, x5, own⟩ := y
      simp only [acCells, acIn] at hc hin
      obtain ⟨hk, h2, h3, h4, h5⟩ := hin
      have HCS : Hid (∀ V E2, Hid (RD p bk 3 4 w E2 V) → V.cell? ⟨tb, tt + q * 7 + 1, none⟩ = some (.int .u16 k) ∧ V.cell? ⟨tb, tt + q * 7 + 2, none⟩ = some (.int .u32 x2) ∧ V.cell? ⟨tb, tt + q * 7 + 4, none⟩ = some (.int .u16 x4) ∧ V.cell? ⟨tb, tt + q * 7 + 5, none⟩ = some (.int .u64 x5)) := Lib.hid (fun V E2 hV => by
        have cc : ∀ j u, [Value.int .i64 wh, .int .u16 k, .int .u32 x2, .int .u32 x3, .int .u16 x4, .int .u64 x5, .bool own][j]? = some u → V.cell? ⟨tb, tt + q * 7 + j, none⟩ = some u := fun j u hj => (hV.out.sp.cell (p := ⟨tb, tt + q * 7 + j, none⟩) (cellB_lt (hc j u hj)) (fun h => h)).trans (hc j u hj)
        exact ⟨cc 1 _ rfl, cc 2 _ rfl, cc 4 _ rfl, cc 5 _ rfl⟩)
      obtain ⟨K, hK⟩ : ∃ K, keyF k = K := ⟨_, rfl⟩
      have hKL : K.length = 32 := by rw [← hK]; exact keyF_len k
      have CK : Hid (∀ V, Hid (RD p bk 3 4 w E V) → Calls Try.prog 14 #[.int .u16 k] V fun e w' => e = .returned (.agg (bytesV K)) ∧ Hid (RD p bk 3 4 w E w')) := Lib.hid (fun V hV => by
        have := key_any k V hk
        rw [hK] at this
        exact this.mono (by rintro e w' ⟨rfl, hs⟩; exact ⟨rfl, Lib.hid (hV.out.quiet hs)⟩))
      have CI : Hid (∀ V, Hid (RD p bk 3 4 w E V) → Calls Try.prog 17 #[.pointer (some ⟨p, 0, none⟩), .agg (bytesV K), .int .u32 x2, .int .u16 x4, .int .u64 x5] V fun e w' => ∃ v E', e = .returned v ∧ Hid (RD p bk 3 4 w E' w')) := Lib.hid (fun V hV => hV.out.ins K hKL x2 x4 x5 h2 h4 h5)
      have HBD : Hid (RD p bk 3 4 w E wr.drew) := Lib.hid (HB.out.quiet (Spares.refl _ _).drew)
      have hqL : (q : Int) < (L : Int) := by omega
      have wq : IntKind.i64.wrap ((q : Int) + 1) = (q : Int) + 1 := by rw [IntKind.wrap_i64]; omega
      clear hc hy hK
      go_upto_region 9 with (fail)
      refine wp_region_held_drew (S := fun V => V.cell? ⟨tb, tt + q * 7 + 1, none⟩ = some (.int .u16 k) ∧ V.cell? ⟨tb, tt + q * 7 + 2, none⟩ = some (.int .u32 x2) ∧ V.cell? ⟨tb, tt + q * 7 + 4, none⟩ = some (.int .u16 x4) ∧ V.cell? ⟨tb, tt + q * 7 + 5, none⟩ = some (.int .u64 x5)) (by kernel_rfl) (HCS.out _ _ HBD) (fun hS0 => ?_)
      refine wpAnyH_take (i := 0) (v := ?_) rfl (by kernel_rfl) (by kernel_rfl) (by kernel_rfl) (fun _ _ _ h => h) (Or.inl ⟨by rfl, ?_⟩) (by assumption) ?_
      rotate_left
      · intro w9 hS9
        obtain ⟨z1, z2, z4, z5⟩ := hS9
        go_simp
        try with_reducible rfl
      simp only [List.getElem_toArray, List.getElem_cons_zero, Act.put, List.setIfInBounds_toArray, List.set_cons_succ, List.set_cons_zero]
      refine wpAnyH_take (i := 1) (v := ?_) rfl (by kernel_rfl) (by kernel_rfl) (by kernel_rfl) (fun _ _ _ h => h) (Or.inl ⟨by rfl, ?_⟩) (by assumption) ?_
      rotate_left
      · intro w9 hS9
        obtain ⟨z1, z2, z4, z5⟩ := hS9
        go_simp
        try with_reducible rfl
      simp only [List.getElem_toArray, List.getElem_cons_succ, List.getElem_cons_zero, Act.put, List.setIfInBounds_toArray, List.set_cons_succ, List.set_cons_zero]
      refine wpAnyH_take (i := 2) (v := ?_) rfl (by kernel_rfl) (by kernel_rfl) (by kernel_rfl) (fun _ _ _ h => h) (Or.inl ⟨by rfl, ?_⟩) (by assumption) ?_
      rotate_left
      · intro w9 hS9
        obtain ⟨z1, z2, z4, z5⟩ := hS9
        go_simp
        try with_reducible rfl
      simp only [List.getElem_toArray, List.getElem_cons_succ, List.getElem_cons_zero, Act.put, List.setIfInBounds_toArray, List.set_cons_succ, List.set_cons_zero]
      refine wpAnyH_take (i := 3) (v := ?_) rfl (by kernel_rfl) (by kernel_rfl) (by kernel_rfl) (fun _ _ _ h => h) (Or.inl ⟨by rfl, ?_⟩) (by assumption) ?_
      rotate_left
      · intro w9 hS9
        obtain ⟨z1, z2, z4, z5⟩ := hS9
        go_simp
        try with_reducible rfl
      simp only [List.getElem_toArray, List.getElem_cons_succ, List.getElem_cons_zero, Act.put, List.setIfInBounds_toArray, List.set_cons_succ, List.set_cons_zero]
      refine wpAnyH_take (i := 4) (v := ?_) rfl (by kernel_rfl) (by kernel_rfl) (by kernel_rfl) (fun _ _ _ h => h) (Or.inl ⟨by rfl, ?_⟩) (by assumption) ?_
      rotate_left
      · intro w9 hS9
        obtain ⟨z1, z2, z4, z5⟩ := hS9
        go_simp
        try with_reducible rfl
      simp only [List.getElem_toArray, List.getElem_cons_succ, List.getElem_cons_zero, Act.put, List.setIfInBounds_toArray, List.set_cons_succ, List.set_cons_zero]
      refine wpAnyH_take (i := 5) (v := ?_) rfl (by kernel_rfl) (by kernel_rfl) (by kernel_rfl) (fun _ _ _ h => h) (Or.inl ⟨by rfl, ?_⟩) (by assumption) ?_
      rotate_left
      · intro w9 hS9
        obtain ⟨z1, z2, z4, z5⟩ := hS9
        go_simp
        try with_reducible rfl
      simp only [List.getElem_toArray, List.getElem_cons_succ, List.getElem_cons_zero, Act.put, List.setIfInBounds_toArray, List.set_cons_succ, List.set_cons_zero]
      refine wpAnyH_take (i := 7) (v := ?_) rfl (by kernel_rfl) (by kernel_rfl) (by kernel_rfl) (fun _ _ _ h => h) (Or.inl ⟨by rfl, ?_⟩) (by assumption) ?_
      rotate_left
      · intro w9 hS9
        obtain ⟨z1, z2, z4, z5⟩ := hS9
        go_simp
        try with_reducible rfl
      simp only [List.getElem_toArray, List.getElem_cons_succ, List.getElem_cons_zero, Act.put, List.setIfInBounds_toArray, List.set_cons_succ, List.set_cons_zero]
      refine wpAnyH_take (i := 8) (v := ?_) rfl (by kernel_rfl) (by kernel_rfl) (by kernel_rfl) (fun _ _ _ h => h) (Or.inl ⟨by rfl, ?_⟩) (by assumption) ?_
      rotate_left
      · intro w9 hS9
        obtain ⟨z1, z2, z4, z5⟩ := hS9
        go_simp
        try with_reducible rfl
      simp only [List.getElem_toArray, List.getElem_cons_succ, List.getElem_cons_zero, Act.put, List.setIfInBounds_toArray, List.set_cons_succ, List.set_cons_zero]
      refine wpAnyH_take (i := 9) (v := ?_) rfl (by kernel_rfl) (by kernel_rfl) (by kernel_rfl) (fun _ _ _ h => h) (Or.inl ⟨by rfl, ?_⟩) (by assumption) ?_
      rotate_left
      · intro w9 hS9
        obtain ⟨z1, z2, z4, z5⟩ := hS9
        go_simp
        try with_reducible rfl
      simp only [List.getElem_toArray, List.getElem_cons_succ, List.getElem_cons_zero, Act.put, List.setIfInBounds_toArray, List.set_cons_succ, List.set_cons_zero]
      refine wpAnyH_take (i := 10) (v := ?_) rfl (by kernel_rfl) (by kernel_rfl) (by kernel_rfl) (fun _ _ _ h => h) (Or.inl ⟨by rfl, ?_⟩) (by assumption) ?_
      rotate_left
      · intro w9 hS9
        obtain ⟨z1, z2, z4, z5⟩ := hS9
        go_simp
        try with_reducible rfl
      simp only [List.getElem_toArray, List.getElem_cons_succ, List.getElem_cons_zero, Act.put, List.setIfInBounds_toArray, List.set_cons_succ, List.set_cons_zero]
      refine wpAnyH_take (i := 11) (v := ?_) rfl (by kernel_rfl) (by kernel_rfl) (by kernel_rfl) (fun _ _ _ h => h) (Or.inl ⟨by rfl, ?_⟩) (by assumption) ?_
      rotate_left
      · intro w9 hS9
        obtain ⟨z1, z2, z4, z5⟩ := hS9
        go_simp
        try with_reducible rfl
      simp only [List.getElem_toArray, List.getElem_cons_succ, List.getElem_cons_zero, Act.put, List.setIfInBounds_toArray, List.set_cons_succ, List.set_cons_zero]
      refine wpAnyH_take (i := 12) (v := ?_) rfl (by kernel_rfl) (by kernel_rfl) (by kernel_rfl) (fun _ _ _ h => h) (Or.inl ⟨by rfl, ?_⟩) (by assumption) ?_
      rotate_left
      · intro w9 hS9
        obtain ⟨z1, z2, z4, z5⟩ := hS9
        go_simp
        try with_reducible rfl
      simp only [List.getElem_toArray, List.getElem_cons_succ, List.getElem_cons_zero, Act.put, List.setIfInBounds_toArray, List.set_cons_succ, List.set_cons_zero]
      refine wpAnyH_take (i := 13) (v := ?_) rfl (by kernel_rfl) (by kernel_rfl) (by kernel_rfl) (fun _ _ _ h => h) (Or.inl ⟨by rfl, ?_⟩) (by assumption) ?_
      rotate_left
      · intro w9 hS9
        obtain ⟨z1, z2, z4, z5⟩ := hS9
        go_simp
        try with_reducible rfl
      simp only [List.getElem_toArray, List.getElem_cons_succ, List.getElem_cons_zero, Act.put, List.setIfInBounds_toArray, List.set_cons_succ, List.set_cons_zero]
      refine wpAnyH_take (i := 14) (v := ?_) rfl (by kernel_rfl) (by kernel_rfl) (by kernel_rfl) (fun _ _ _ h => h) (Or.inl ⟨by rfl, ?_⟩) (by assumption) ?_
      rotate_left
      · intro w9 hS9
        obtain ⟨z1, z2, z4, z5⟩ := hS9
        go_simp
        try with_reducible rfl
      simp only [List.getElem_toArray, List.getElem_cons_succ, List.getElem_cons_zero, Act.put, List.setIfInBounds_toArray, List.set_cons_succ, List.set_cons_zero]
      refine wpAnyH_take (i := 15) (v := ?_) rfl (by kernel_rfl) (by kernel_rfl) (by kernel_rfl) (fun _ _ _ h => h) (Or.inl ⟨by rfl, ?_⟩) (by assumption) ?_
      rotate_left
      · intro w9 hS9
        obtain ⟨z1, z2, z4, z5⟩ := hS9
        go_simp
        try with_reducible rfl
      simp only [List.getElem_toArray, List.getElem_cons_succ, List.getElem_cons_zero, Act.put, List.setIfInBounds_toArray, List.set_cons_succ, List.set_cons_zero]
      refine wpAnyH_take (i := 16) (v := ?_) rfl (by kernel_rfl) (by kernel_rfl) (by kernel_rfl) (fun _ _ _ h => h) (Or.inl ⟨by rfl, ?_⟩) (by assumption) ?_
      rotate_left
      · intro w9 hS9
        obtain ⟨z1, z2, z4, z5⟩ := hS9
        go_simp
        try with_reducible rfl
      simp only [List.getElem_toArray, List.getElem_cons_succ, List.getElem_cons_zero, Act.put, List.setIfInBounds_toArray, List.set_cons_succ, List.set_cons_zero]
      refine wpAnyH_take (i := 17) (v := ?_) rfl (by kernel_rfl) (by kernel_rfl) (by kernel_rfl) (fun _ _ _ h => h) (Or.inl ⟨by rfl, ?_⟩) (by assumption) ?_
      rotate_left
      · intro w9 hS9
        obtain ⟨z1, z2, z4, z5⟩ := hS9
        go_simp
        try with_reducible rfl
      simp only [List.getElem_toArray, List.getElem_cons_succ, List.getElem_cons_zero, Act.put, List.setIfInBounds_toArray, List.set_cons_succ, List.set_cons_zero]
      refine wpAnyH_take (i := 18) (v := ?_) rfl (by kernel_rfl) (by kernel_rfl) (by kernel_rfl) (fun _ _ _ h => h) (Or.inl ⟨by rfl, ?_⟩) (by assumption) ?_
      rotate_left
      · intro w9 hS9
        obtain ⟨z1, z2, z4, z5⟩ := hS9
        go_simp
        try with_reducible rfl
      simp only [List.getElem_toArray, List.getElem_cons_succ, List.getElem_cons_zero, Act.put, List.setIfInBounds_toArray, List.set_cons_succ, List.set_cons_zero]
      refine wpAnyH_take (i := 19) (v := ?_) rfl (by kernel_rfl) (by kernel_rfl) (by kernel_rfl) (fun _ _ _ h => h) (Or.inl ⟨by rfl, ?_⟩) (by assumption) ?_
      rotate_left
      · intro w9 hS9
        obtain ⟨z1, z2, z4, z5⟩ := hS9
        go_simp
        try with_reducible rfl
      simp only [List.getElem_toArray, List.getElem_cons_succ, List.getElem_cons_zero, Act.put, List.setIfInBounds_toArray, List.set_cons_succ, List.set_cons_zero]
      refine wpAnyH_take (i := 20) (v := ?_) rfl (by kernel_rfl) (by kernel_rfl) (by kernel_rfl) (fun _ _ _ h => h) (Or.inl ⟨by rfl, ?_⟩) (by assumption) ?_
      rotate_left
      · intro w9 hS9
        obtain ⟨z1, z2, z4, z5⟩ := hS9
        go_simp
        try with_reducible rfl
      simp only [List.getElem_toArray, List.getElem_cons_succ, List.getElem_cons_zero, Act.put, List.setIfInBounds_toArray, List.set_cons_succ, List.set_cons_zero]
      refine wpAnyH_take (i := 21) (v := ?_) rfl (by kernel_rfl) (by kernel_rfl) (by kernel_rfl) (fun _ _ _ h => h) (Or.inl ⟨by rfl, ?_⟩) (by assumption) ?_
      rotate_left
      · intro w9 hS9
        obtain ⟨z1, z2, z4, z5⟩ := hS9
        go_simp
        try with_reducible rfl
      simp only [List.getElem_toArray, List.getElem_cons_succ, List.getElem_cons_zero, Act.put, List.setIfInBounds_toArray, List.set_cons_succ, List.set_cons_zero]
      refine wpAnyH_ready (rs := [6]) (by kernel_rfl) (by simp) ?_
      refine AllReadyH.cons rfl (fun K9 hK9 => ?_) ?_
      · go_simp
        go_at_call 14
        with_reducible refine Calls.mono (CK.out _ HBD) ?_
        rintro e v1 ⟨rfl, hb1⟩
        try go_simp
        refine hK9.out _ _ ?_ (fun hS9 => ?_)
        · exact HCS.out _ _ hb1
        clear hK9 K9
        refine wpAnyH_ready (rs := [22]) (by kernel_rfl) (by simp) ?_
        refine AllReadyH.cons rfl (fun K9 hK9 => ?_) ?_
        · go_simp
          go_at_call 17
          with_reducible refine Calls.mono (CI.out _ hb1) ?_
          rintro e v2 ⟨u2, E2, rfl, hb2⟩
          try go_simp
          refine hK9.out _ _ ?_ (fun hS9 => ?_)
          · exact HCS.out _ _ hb2
          clear hK9 K9
          refine wpAnyH_done (by kernel_rfl) ?_ _
          go_wp2
          go_roundw
          case rel => exact ⟨q + 1, E2, by omega, rfl, hb2⟩
          case measure => simp [intOf]; omega
        exact AllReadyH.nil
      exact AllReadyH.nil
    · obtain rfl : q = L := by omega
      go_wp2_with fail
      refine (HB.out.bytes (by omega)).mono ?_
      rintro e w2 ⟨g0, cd, D, rfl, hD12, hD3, hDc, hcd, hg0, HD, HFZ, HS2⟩
      obtain ⟨dl, hdl⟩ : ∃ dl, D.length = dl := ⟨_, rfl⟩
      rw [hdl] at hD12 hD3 hDc ⊢
      have HDL := Lib.hid hdl
      clear hdl HB HI0
      go_wp2_with fail
      refine (place_any at_ dl w2 (by omega) (by omega) hat9).mono ?_
      rintro e v1 ⟨⟨m, hm, rfl⟩, hv1⟩
      subst hv1
      have hmD : m < D.length := by rw [HDL.out]; exact hm
      obtain ⟨y, hy⟩ : ∃ y : Nat, D[m].toNat = y := ⟨_, rfl⟩
      have c1 : w2.cell? ⟨g0, m, none⟩ = some (.int .u8 y) := by
        obtain ⟨b2, o2, e2, hcell⟩ := HD.out m hmD
        simp only [Option.some.injEq, Addr.mk.injEq] at e2
        obtain ⟨rfl, rfl, _⟩ := e2
        rw [Nat.zero_add] at hcell
        rw [hcell, hy]
      have c2 : w2.frozen? ⟨g0, m, none⟩ = false := HFZ.out m hmD
      obtain ⟨z, hz, hxz⟩ := xor_u8 (y : Int) (x : Int)
      have f1 : (m : Int) < (dl : Int) := by omega
      have f0 : (0 : Int) ≤ (m : Int) := by omega
      have HAT5 := Lib.hid (bytesAt_put HD.out m z hz)
      obtain ⟨D5, hD5⟩ : ∃ D5, D.set m (UInt8.ofNat z) = D5 := ⟨_, rfl⟩
      have hD5l : D5.length = dl := by rw [← hD5, List.length_set]; exact HDL.out
      rw [hD5] at HAT5
      have HS5 : Hid (Spares nowhere w (w2.setCell ⟨g0, m, none⟩ (.int .u8 z))) := Lib.hid (HS2.out.setCell (p := ⟨g0, m, none⟩) (.inr hg0) _)
      obtain ⟨w5, hw5⟩ : ∃ w5, w2.setCell ⟨g0, m, none⟩ (.int .u8 z) = w5 := ⟨_, rfl⟩
      rw [hw5] at HAT5 HS5
      have HW5 := Lib.hid hw5
      have HD5L := Lib.hid hD5l
      clear hy hD5 hw5 hD5l hmD HD HFZ HS2
      go_upto_region 12 with (fail)
      rw [HW5.out]
      go_cut [74] (fun v wx => (∃ b3, v = .bool b3) ∧ wx = w5)
      case first => go_wp2_with fail; go_meet; exact ⟨⟨_, rfl⟩, rfl⟩
      case rest =>
        obtain ⟨⟨b3, rfl⟩, rfl⟩ := hcut
        obtain ⟨wy, hwy⟩ : ∃ wy, wy = wc := ⟨_, rfl⟩
        subst hwy
        go_upto_if 74 with (fail)
        go_cut [13] (fun v wx => (∃ (D6 : List UInt8) (n6 cc : Nat), v = .slice (some ⟨g0, 0, none⟩) n6 cc ∧ Hid (D6.length = n6) ∧ Hid (BytesAt wy (some ⟨g0, 0, none⟩) D6) ∧ n6 ≤ cc ∧ cc ≤ 9223372036854775807 ∧ n6 ≤ 3000) ∧ wx = wy)
        case first =>
          cases b3 with
          | false => go_wp2_with fail; go_meet; exact ⟨⟨D5, dl, cd, rfl, HD5L, HAT5, hDc, hcd, hD3⟩, rfl⟩
          | true =>
            obtain ⟨qn, hqn⟩ : ∃ qn, cut % (dl + 1) = qn := ⟨_, rfl⟩
            have hql : qn ≤ dl := by have := Nat.mod_lt cut (show 0 < dl + 1 by omega); omega
            have y1 : IntKind.i64.wrap (cut : Int) = (cut : Int) := by rw [IntKind.wrap_i64]; omega
            have y2 : IntKind.i64.wrap ((dl : Int) + 1) = (dl : Int) + 1 := by rw [IntKind.wrap_i64]; omega
            have y3 : (cut : Int).tmod ((dl : Int) + 1) = (qn : Int) := by rw [← hqn]; exact (Int.ofNat_tmod cut (dl + 1)).symm
            have y3' : (cut : Int) % ((dl : Int) + 1) = (qn : Int) := by rw [← hqn]; exact (Int.natCast_emod cut (dl + 1)).symm
            have y4 : IntKind.i64.wrap (qn : Int) = (qn : Int) := by rw [IntKind.wrap_i64]; omega
            have y5 : (0 : Int) ≤ (qn : Int) := by omega
            have y6 : (qn : Int) ≤ (cd : Int) := by omega
            have y7 : ¬ ((dl : Int) + 1) = 0 := by omega
            have y8 : (((dl : Int) + 1) == 0) = false := by simp; omega
            have HL6 : Hid ((D5.take qn).length = qn) := Lib.hid (by rw [List.length_take, HD5L.out]; omega)
            have HA6 := Lib.hid (bytesAt_takeF qn HAT5.out)
            clear hqn
            go_wp2_with fail
            go_meet
            exact ⟨⟨_, qn, cd, rfl, HL6, HA6, by omega, hcd, by omega⟩, rfl⟩
        case rest =>
          obtain ⟨⟨D6, n6, cc, rfl, HL6, HA6, hn6, hcc, hn3⟩, rfl⟩ := hcut
          obtain ⟨wp, hwp⟩ : ∃ wp, wp = wc := ⟨_, rfl⟩
          subst hwp
          obtain ⟨wq, hwq⟩ : ∃ wq, wp.alloc (.cells #[.slice (some ⟨g0, 0, none⟩) n6 cc, .slice g M d] 49) = wq := ⟨_, rfl⟩
          have hsq : Spares nowhere wp wq := by rw [← hwq]; exact (Spares.refl _ _).alloc _
          have hbq : wq.heap[wp.heap.size]? = some (.cells #[.slice (some ⟨g0, 0, none⟩) n6 cc, .slice g M d] 49 (0, 0)) := by rw [← hwq]; exact heap_alloc_new _ _
          obtain ⟨cb, hcb⟩ : ∃ cb, wp.heap.size = cb := ⟨_, rfl⟩
          rw [hcb] at hbq
          have HSQ : Hid (Spares nowhere w wq) := Lib.hid (HS5.out.trans hsq)
          have HSL : Hid (∀ V, Spares nowhere wq V → ∀ t, t < 2 → ∃ (ad : Option Addr) (Z : List UInt8) (zl cz : Nat), V.cell? ⟨cb, t, none⟩ = some (.slice ad zl cz) ∧ Hid (Z.length = zl) ∧ Hid (BytesAt V ad Z) ∧ zl ≤ cz ∧ cz ≤ 9223372036854775807 ∧ zl ≤ 3000) := Lib.hid (fun V hV t ht => by
            have hb := hV.heap hbq (fun h => h)
            match t, ht with
            | 0, _ => exact ⟨_, D6, n6, cc, by rw [Lib.cell_of_heap hb]; rfl, HL6, Lib.hid ((HA6.out.spares hsq (fun _ _ _ h => h)).spares hV (fun _ _ _ h => h)), hn6, hcc, hn3⟩
            | 1, _ => exact ⟨_, Y, M, d, by rw [Lib.cell_of_heap hb]; rfl, HM, Lib.hid ((HGT.out.spares HSQ.out (fun _ _ _ h => h)).spares hV (fun _ _ _ h => h)), hcap, hdm, by omega⟩)
          have HWQ := Lib.hid hwq
          have HCB := Lib.hid hcb
          clear hwq hsq hbq hcb HA6 HL6
          go_upto_block 2 with (fail)
          rw [HWQ.out, HCB.out]
          go_wp2
          go_loopw [87] (fun i wr => ∃ t : Nat, t ≤ 2 ∧ i = .int .i64 t ∧ Hid (Spares nowhere wq wr)) (fun i _ => 2 - (intOf i).toNat)
          case atStart => exact ⟨0, by omega, rfl, Lib.hid (Spares.refl _ _)⟩
          case round =>
            obtain ⟨t, ht2, rfl, HWR⟩ := hrel
            by_cases htl : t < 2
            · obtain ⟨ad, Z, zl, cz, c9, HZL, HZ, hz1, hz2, hz3⟩ := HSL.out wr HWR.out t htl
              have wt : IntKind.i64.wrap ((t : Int) + 1) = (t : Int) + 1 := by rw [IntKind.wrap_i64]; omega
              have t1 : (t : Int) < 2 := by omega
              have t0 : (0 : Int) ≤ (t : Int) := by omega
              have CO : Hid (Calls Try.prog 22 #[.slice ad zl cz] wr (OpenPost Z wr)) := Lib.hid (by
                have := open_any ad Z cz wr HZ.out (by rw [HZL.out]; exact hz1) hz2
                rw [HZL.out] at this
                exact this)
              have CR : Hid (∀ V, Spares nowhere wr V → Calls Try.prog 33 #[.slice ad zl cz] V (RefOpenPost Z V)) := Lib.hid (fun V hV => by
                have := refOpen_any ad Z cz V (HZ.out.spares hV (fun _ _ _ h => h)) (by rw [HZL.out]; exact hz1) hz2
                rw [HZL.out] at this
                exact this)
              go_wp2_with fail
              refine CO.out.mono ?_
              rintro e w7 ⟨hs7, hp7⟩
              have HS7 := Lib.hid hs7
              cases hdo : dirO Z with
              | none =>
                rcases hp7 with ⟨n', s', E', p7, F7, bk7, R7, he, _⟩ | ⟨_, rfl⟩
                · rw [hdo] at he; cases he
                · clear hs7
                  go_wp2_with fail
                  refine (CR.out w7 HS7.out).mono ?_
                  rintro e w8 ⟨hs8, ⟨n', s', E', p8, F8, bk8, R8, he, _⟩ | ⟨_, rfl⟩⟩
                  · rw [hdo] at he; cases he
                  · have HS8 : Hid (Spares nowhere wq w8) := Lib.hid ((HWR.out.trans HS7.out).trans hs8)
                    clear hs8 hdo
                    go_wp2
                    go_roundw
                    case rel => exact ⟨t + 1, by omega, rfl, HS8⟩
                    case measure => simp [intOf]; omega
              | some nse =>
                obtain ⟨n7, s7, E7⟩ := nse
                rcases hp7 with ⟨n', s', E', p7, F7, bk7, R7, he, rfl, hd7, h7⟩ | ⟨he, _⟩
                rotate_left
                · rw [hdo] at he; cases he
                rw [hdo] at he
                simp only [Option.some.injEq, Prod.mk.injEq] at he
                obtain ⟨rfl, rfl, rfl⟩ := he
                have HD7 := Lib.hid hd7
                have HDO := Lib.hid hdo
                clear hs7 h7 hd7 hdo
                go_wp2_with fail
                refine (CR.out w7 HS7.out).mono ?_
                rintro e w8 ⟨hs8, ⟨n', s', E', p8, F8, bk8, R8, he, rfl, hd8, h8⟩ | ⟨he, _⟩⟩
                rotate_left
                · rw [HDO.out] at he; cases he
                rw [HDO.out] at he
                simp only [Option.some.injEq, Prod.mk.injEq] at he
                obtain ⟨rfl, rfl, rfl⟩ := he
                have HD8 := Lib.hid hd8
                have HS8 := Lib.hid hs8
                have hback := dirO_back HDO.out
                have HBK := Lib.hid hback.1
                obtain ⟨N, hN⟩ : ∃ N, E7.flatten.length = N := ⟨_, rfl⟩
                obtain ⟨xs, hxs⟩ : ∃ xs, E7.flatten = xs := ⟨_, rfl⟩
                have hxl : xs.length ≤ 1000000 := by
                  rw [← hxs]
                  exact Nat.le_trans (flat_len E7 s7 hback.2.2.1) (by rw [hback.2.1]; exact Nat.le_trans (Nat.mul_le_mul hback.2.2.2.2.2.1 hback.2.2.2.2.2.2.2) (by omega))
                have C1 : Hid (∀ V, Spares nowhere w8 V → Calls Try.prog 32 #[.pointer (some ⟨p7, 0, none⟩)] V fun e w' => ∃ a c, e = .returned (.slice a N c) ∧ Hid (Told w' a xs) ∧ Hid (Spares nowhere V w')) := Lib.hid (fun V hV => by
                  have := all_any F7 p7 bk7 n7 s7 R7 E7 V ((HD7.out.spares HS8.out (fun _ _ _ h => h)).spares hV (fun _ _ _ h => h))
                  exact this.mono (by rintro e w' ⟨a, c, rfl, h1, h2⟩; exact ⟨a, c, by rw [hN], Lib.hid (by rw [← hxs]; exact h1), Lib.hid h2⟩))
                have C2 : Hid (∀ V, Spares nowhere w8 V → Calls Try.prog 29 #[.pointer (some ⟨p8, 0, none⟩)] V fun e w' => ∃ a c, e = .returned (.slice a N c) ∧ Hid (Told w' a xs) ∧ Hid (Spares nowhere V w')) := Lib.hid (fun V hV => by
                  have := refAll_any F8 p8 bk8 n7 s7 R8 E7 V (HD8.out.spares hV (fun _ _ _ h => h))
                  exact this.mono (by rintro e w' ⟨a, c, rfl, h1, h2⟩; exact ⟨a, c, by rw [hN], Lib.hid (by rw [← hxs]; exact h1), Lib.hid h2⟩))
                have C3 : Hid (∀ V a1 a2 c1 c2, Hid (Told V a1 xs) → Hid (Told V a2 xs) → Calls Try.prog 26 #[.slice a1 N c1, .slice a2 N c2] V fun e w' => e = .returned (.bool true) ∧ Hid (Spares nowhere V w')) := Lib.hid (fun V a1 a2 c1 c2 h1 h2 => by
                  have := entries_same a1 a2 c1 c2 xs V h1.out h2.out hxl
                  rw [← hxs, hN] at this
                  exact this.mono (by rintro e w' ⟨rfl, h⟩; exact ⟨rfl, Lib.hid h⟩))
                have C4 : Hid (∀ V, Spares nowhere w8 V → Calls Try.prog 23 #[.pointer (some ⟨p7, 0, none⟩)] V fun e w' => ∃ g c, e = .returned (.slice (some ⟨g, 0, none⟩) zl c) ∧ Hid (BytesAt w' (some ⟨g, 0, none⟩) Z) ∧ Hid (Spares nowhere V w')) := Lib.hid (fun V hV => by
                  have := dBytes_any F7 p7 bk7 n7 s7 R7 E7 V ((HD7.out.spares HS8.out (fun _ _ _ h => h)).spares hV (fun _ _ _ h => h)) (by rw [HBK.out, HZL.out]; omega)
                  rw [HBK.out] at this
                  exact this.mono (by rintro e w' ⟨g, c, rfl, h1, _, _, h⟩; exact ⟨g, c, by rw [HZL.out], Lib.hid h1, Lib.hid h⟩))
                have C5 : Hid (∀ V g1 c1, Spares nowhere wr V → Hid (BytesAt V (some ⟨g1, 0, none⟩) Z) → Calls Try.prog 24 #[.slice (some ⟨g1, 0, none⟩) zl c1, .slice ad zl cz] V fun e w' => e = .returned (.bool true) ∧ V = w') := Lib.hid (fun V g1 c1 hV h1 => by
                  have := bytes_any Z Z (some ⟨g1, 0, none⟩) ad c1 cz V h1.out (HZ.out.spares hV (fun _ _ _ h => h))
                  rw [HZL.out, beq_self_eq_true] at this
                  exact this)
                clear hs8 h8 hd8 hback hN hxs hxl
                go_wp2_with fail
                refine (C1.out w8 (Spares.refl _ _)).mono ?_
                rintro e x1 ⟨a1, c1, rfl, ht1, hq1⟩
                go_wp2_with fail
                refine (C2.out x1 hq1.out).mono ?_
                rintro e x2 ⟨a2, c2, rfl, ht2', hq2⟩
                go_wp2_with fail
                refine (C3.out x2 a1 a2 c1 c2 (Lib.hid (ht1.out.later hq2.out)) ht2').mono ?_
                rintro e x3 ⟨rfl, hq3⟩
                have HQ3 : Hid (Spares nowhere w8 x3) := Lib.hid ((hq1.out.trans hq2.out).trans hq3.out)
                go_wp2_with fail
                refine (C4.out x3 HQ3.out).mono ?_
                rintro e x4 ⟨g4, c4, rfl, ht4, hq4⟩
                have HQ4 : Hid (Spares nowhere wr x4) := Lib.hid (((HS7.out.trans HS8.out).trans HQ3.out).trans hq4.out)
                go_wp2_with fail
                refine (C5.out x4 g4 c4 HQ4.out ht4).mono ?_
                rintro e x5 ⟨rfl, hv5⟩
                subst hv5
                have HS9 : Hid (Spares nowhere wq x4) := Lib.hid (HWR.out.trans HQ4.out)
                go_wp2
                go_roundw
                case rel => exact ⟨t + 1, by omega, rfl, HS9⟩
                case measure => simp [intOf]; omega
            · obtain rfl : t = 2 := by omega
              have HFN : Hid (Spares nowhere w wr) := Lib.hid (HSQ.out.trans HWR.out)
              go_wp2
              go_ret
              exact ⟨rfl, HFN.out⟩
end Go.Proofs.Ytihbjkdgfflnfaa
