/-
  DateForms.
-/
import Derived.Test.YtfnpncmdeimcbaaDoorDateLawFormsM
namespace Go.Proofs.YtfnpncmdeimcbaaDoor
open Go.RowKit DateMath

theorem below_two (w : World) (o p : Obj) : Below w.heap.size w ((w.alloc o).alloc p) := ((Below.refl _ _).alloc (Nat.le_refl _) _).alloc (by simp) _
set_option maxRecDepth 100000 in
set_option maxHeartbeats 16000000 in
theorem formsD_any (t : Int) (fn : Nat) (w : World) (h1 : TabP w) (h2 : TabS w) (hlo : -9223372036854775808 ≤ t) (hhi : t ≤ 9223372036854775807) (hfn : fn < 256) : Calls Tryd.prog 5 #[.int .i64 t, .int .u8 fn] w (YesD w) := by
  have CK := Lib.hid (knownD_any w h1 h2)
  obtain ⟨p, hp⟩ : ∃ p : Nat, (if t < 0 then -(t + 1) else t) = (p : Int) := ⟨(if t < 0 then -(t + 1) else t).toNat, by split <;> omega⟩
  obtain ⟨T, hT⟩ : ∃ T, p % 4099680000 = T := ⟨_, rfl⟩
  have hTm : T ≤ maxT := by unfold maxT; omega
  have hTI : (p : Int) % 4099680000 = (T : Int) := by omega
  have hTI2 : (p : Int).tmod 4099680000 = (T : Int) := by rw [Int.tmod_eq_emod_of_nonneg (by omega)]; omega
  have hTb : (T : Int) < 4099680000 := by omega
  have crt := fun x hx => refTextD_at (w := w) (T : Int) x hx
  rw [show clampN (T : Int) = T by unfold clampN; unfold maxT at hTm; omega] at crt
  obtain ⟨W, hW⟩ : ∃ W, (momOf T).wd = W := ⟨_, rfl⟩
  have hW6 : W ≤ 6 := by rw [← hW]; exact (mom_ok T hTm).wd
  obtain ⟨n, hn⟩ : ∃ n, T / 86400 = n := ⟨_, rfl⟩
  have hWn : (n + 4) % 7 = W := by rw [← hW, ← hn]; rfl
  obtain ⟨f, hf⟩ : ∃ f, fn % 7 = f := ⟨_, rfl⟩
  obtain ⟨V, hV⟩ : ∃ V, (W + f) % 7 = V := ⟨_, rfl⟩
  have hV6 : V ≤ 6 := by omega
  obtain ⟨S3, DD, SP, M3, CL, YY, Y2, U1, U2, U3, U4, U5, U6, U7, L1, L2, L3, L4, L5, L6, L7, L8, X1, X2, X3, HM, hDD, hSP⟩ := made_parts (mom_ok T hTm) hV6
  have hd31 : (momOf T).day ≤ 31 := Nat.le_trans (mom_ok T hTm).date.d2 len31
  obtain ⟨dg1, dg2, dg3⟩ := dig_two (momOf T).day hd31
  have zS : (arrD (plainT (momOf T))).size = 29 := by rw [arrD_size, plain_len (mom_ok T hTm)]
  obtain ⟨S, hS⟩ : ∃ S, arrD (plainT (momOf T)) = S := ⟨_, rfl⟩
  rw [hS] at crt HM zS
  have RW := fun x => rows_at x V hV6
  obtain ⟨DV3, hD3⟩ : ∃ D, arrD (day3L.getD V []) = D := ⟨_, rfl⟩
  obtain ⟨DVL, hDL⟩ : ∃ D, arrD (dayL.getD V []) = D := ⟨_, rfl⟩
  rw [hD3, hDL] at HM
  have RW2 : ∀ x : World, ((x.alloc (.cells #[.string ⟨#[83, 117, 110, 100, 97, 121]⟩, .string ⟨#[77, 111, 110, 100, 97, 121]⟩, .string ⟨#[84, 117, 101, 115, 100, 97, 121]⟩, .string ⟨#[87, 101, 100, 110, 101, 115, 100, 97, 121]⟩, .string ⟨#[84, 104, 117, 114, 115, 100, 97, 121]⟩, .string ⟨#[70, 114, 105, 100, 97, 121]⟩, .string ⟨#[83, 97, 116, 117, 114, 100, 97, 121]⟩] 9)).alloc (.cells #[.string ⟨#[83, 117, 110]⟩, .string ⟨#[77, 111, 110]⟩, .string ⟨#[84, 117, 101]⟩, .string ⟨#[87, 101, 100]⟩, .string ⟨#[84, 104, 117]⟩, .string ⟨#[70, 114, 105]⟩, .string ⟨#[83, 97, 116]⟩] 9)).cell? ⟨x.heap.size, V, none⟩ = some (.string DVL) ∧ ((x.alloc (.cells #[.string ⟨#[83, 117, 110, 100, 97, 121]⟩, .string ⟨#[77, 111, 110, 100, 97, 121]⟩, .string ⟨#[84, 117, 101, 115, 100, 97, 121]⟩, .string ⟨#[87, 101, 100, 110, 101, 115, 100, 97, 121]⟩, .string ⟨#[84, 104, 117, 114, 115, 100, 97, 121]⟩, .string ⟨#[70, 114, 105, 100, 97, 121]⟩, .string ⟨#[83, 97, 116, 117, 114, 100, 97, 121]⟩] 9)).alloc (.cells #[.string ⟨#[83, 117, 110]⟩, .string ⟨#[77, 111, 110]⟩, .string ⟨#[84, 117, 101]⟩, .string ⟨#[87, 101, 100]⟩, .string ⟨#[84, 104, 117]⟩, .string ⟨#[70, 114, 105]⟩, .string ⟨#[83, 97, 116]⟩] 9)).cell? ⟨x.heap.size + 1, V, none⟩ = some (.string DV3) := fun x => by rw [← hD3, ← hDL]; exact RW x
  obtain ⟨zS3, zD3, zDL, zDD, zSP, zM3, zCL, zYY, zY2⟩ := HM.sizes
  -- sizes of the sums
  have zU1 : U1.size = 4 := by rw [← HM.u1, ByteArray.size_append, zD3]; rfl
  have zU2 : U2.size = 7 := by rw [← HM.u2, ByteArray.size_append, zU1, zM3]
  have zU3 : U3.size = 8 := by rw [← HM.u3, ByteArray.size_append, zU2]; rfl
  have zU4 : U4.size = 10 := by rw [← HM.u4, ByteArray.size_append, zU3, zSP]
  have zU5 : U5.size = 11 := by rw [← HM.u5, ByteArray.size_append, zU4]; rfl
  have zU6 : U6.size = 19 := by rw [← HM.u6, ByteArray.size_append, zU5, zCL]
  have zU7 : U7.size = 20 := by rw [← HM.u7, ByteArray.size_append, zU6]; rfl
  have zX2 : X2.size = 24 := by rw [← HM.x2, ByteArray.size_append, zU7, zYY]
  have k32 : (⟨#[32]⟩ : ByteArray).size = 1 := rfl
  have k44 : (⟨#[44, 32]⟩ : ByteArray).size = 2 := rfl
  have k45 : (⟨#[45]⟩ : ByteArray).size = 1 := rfl
  have kg : (⟨#[32, 71, 77, 84]⟩ : ByteArray).size = 4 := rfl
  have zL1 : L1.size = DVL.size + 2 := by rw [← HM.l1, ByteArray.size_append, k44]
  have zL2 : L2.size = L1.size + 2 := by rw [← HM.l2, ByteArray.size_append, zDD]
  have zL3 : L3.size = L2.size + 1 := by rw [← HM.l3, ByteArray.size_append, k45]
  have zL4 : L4.size = L3.size + 3 := by rw [← HM.l4, ByteArray.size_append, zM3]
  have zL5 : L5.size = L4.size + 1 := by rw [← HM.l5, ByteArray.size_append, k45]
  have zL6 : L6.size = L5.size + 2 := by rw [← HM.l6, ByteArray.size_append, zY2]
  have zL7 : L7.size = L6.size + 1 := by rw [← HM.l7, ByteArray.size_append, k32]
  have zL8 : L8.size = L7.size + 8 := by rw [← HM.l8, ByteArray.size_append, zCL]
  have zX3 : X3.size = L8.size + 4 := by rw [← HM.x3, ByteArray.size_append, kg]
  have zX1 : X1.size = DV3.size + S3.size := by rw [← HM.x1, ByteArray.size_append]
  have AX1 := Lib.hid (add_str HM.x1 (by omega))
  have AU1 := Lib.hid (add_str HM.u1 (by omega))
  have AU2 := Lib.hid (add_str HM.u2 (by omega))
  have AU3 := Lib.hid (add_str HM.u3 (by omega))
  have AU4 := Lib.hid (add_str HM.u4 (by omega))
  have AU5 := Lib.hid (add_str HM.u5 (by omega))
  have AU6 := Lib.hid (add_str HM.u6 (by omega))
  have AU7 := Lib.hid (add_str HM.u7 (by omega))
  have AX2 := Lib.hid (add_str HM.x2 (by omega))
  have AL1 := Lib.hid (add_str HM.l1 (by omega))
  have AL2 := Lib.hid (add_str HM.l2 (by omega))
  have AL3 := Lib.hid (add_str HM.l3 (by omega))
  have AL4 := Lib.hid (add_str HM.l4 (by omega))
  have AL5 := Lib.hid (add_str HM.l5 (by omega))
  have AL6 := Lib.hid (add_str HM.l6 (by omega))
  have AL7 := Lib.hid (add_str HM.l7 (by omega))
  have AL8 := Lib.hid (add_str HM.l8 (by omega))
  have AX3 := Lib.hid (add_str HM.x3 (by omega))
  have CP := Lib.hid (fun (s : ByteArray) (hs : s.size ≤ 100) (x : World) (hx : Below w.heap.size w x) => parseD_on h1 h2 s (by omega) x hx)
  have CP1 := Lib.hid (CP.out X1 (by omega))
  have CP2 := Lib.hid (CP.out X2 (by omega))
  have CP3 := Lib.hid (CP.out X3 (by omega))
  rw [HM.r1] at CP1
  rw [HM.r2] at CP2
  rw [HM.r3] at CP3
  have CRT := Lib.hid crt
  have HP := Lib.hid hp
  have HRW := Lib.hid RW2
  have HZS := Lib.hid zS
  have E3 : Hid (S.extract 3 S.size = S3) := Lib.hid (by rw [zS]; exact HM.s3)
  have HMM := Lib.hid HM
  -- the day's two digits
  have hd0 : ((DD[0]'(by omega)).toNat == 48) = decide ((momOf T).day < 10) := by
    rw [← dg1]
    congr 1
    have : DD[0]'(by omega) = dig ((momOf T).day / 10 % 10) := by
      have h := hDD
      subst h
      rfl
    rw [this]
  obtain ⟨dl, hdl⟩ : ∃ b, decide ((momOf T).day < 10) = b := ⟨_, rfl⟩
  rw [hdl] at hd0
  have HD1 : Hid (dl = true → (⟨#[32]⟩ : ByteArray) ++ DD.extract 1 2 = SP) := Lib.hid (fun h => by
    have hl : (momOf T).day < 10 := of_decide_eq_true (hdl.trans h)
    have t0 : (⟨#[32]⟩ : ByteArray) = arrD [32] := rfl
    rw [hDD, hSP, dg2 hl, arr_extF, t0, arrD_app]
    rfl)
  have HD2 : Hid (dl = false → DD = SP) := Lib.hid (fun h => by
    have hl : ¬ (momOf T).day < 10 := of_decide_eq_false (hdl.trans h)
    rw [hDD, hSP, dg3 hl])
  have HR0 : Hid (V ≠ W → readF (plainT (atW (momOf T) V)) = (0, 80) ∧ readF (oldT (atW (momOf T) V)) = (0, 80)) := Lib.hid (fun h => read_wrong hTm hV6 (by rw [hW]; exact h))
  have HR1 : Hid (V = W → readF (plainT (atW (momOf T) V)) = ((T : Int), 0) ∧ readF (oldT (atW (momOf T) V)) = ((T : Int), 0) ∧ (T < 2145916800 → readF (longT (atW (momOf T) V)) = ((T : Int), 0))) := Lib.hid (fun h => by
    have e : atW (momOf T) V = momOf T := by rw [h, ← hW]; rfl
    rw [e]
    exact ⟨(read_right hTm).1, (read_right hTm).2, fun hl => read_long hTm (year_low hl)⟩)
  have n1 : (T : Int) / 86400 = (n : Int) := by omega
  have n2 : ((n : Int) + 4) % 7 = (W : Int) := by omega
  have n3 : ((n : Int) + 4).tmod 7 = (W : Int) := by rw [Int.tmod_eq_emod_of_nonneg (by omega)]; omega
  have n4 : (n : Int) ≤ 47450 := by omega
  have n5 : (fn : Int) % 7 = (f : Int) := by omega
  have n6 : (fn : Int).tmod 7 = (f : Int) := by rw [Int.tmod_eq_emod_of_nonneg (by omega)]; omega
  have n7 : ((W : Int) + (f : Int)) % 7 = (V : Int) := by omega
  have n8 : ((W : Int) + (f : Int)).tmod 7 = (V : Int) := by rw [Int.tmod_eq_emod_of_nonneg (by omega)]; omega
  have n9 : (W : Int) ≤ 6 := by omega
  have n10 : (f : Int) ≤ 6 := by omega
  have n11 : (V : Int) ≤ 6 := by omega
  have n12 : (V : Int) < 7 := by omega
  have pneg : 0 ≤ (p : Int) := by omega
  clear hp hT crt hW hn hWn hf hV hD3 hDL RW RW2 HM hDD hSP hd31 dg1 dg2 dg3 hS zS3 zU1 zU2 zU3 zU4 zU5 zU6 zU7 zX2 k32 k44 k45 kg zL1 zL2 zL3 zL4 zL5 zL6 zL7 zL8 zX3 zX1 zD3 zDL zSP zM3 zCL zYY zY2 zS hdl CP h1 h2 hW6 hV6
  unfold YesD
  go_enter Tryd.func5, Tryd.ntmps5
  go_wp2_with fail
  refine CK.out.mono ?_
  rintro e w1 ⟨rfl, hb1⟩
  have HB1 := Lib.hid hb1
  clear hb1
  go_upto_if 20 with (fail)
  go_cut [0] (fun s0 wx => s0 = .int .i64 (p : Int) ∧ wx = w1)
  case first =>
    clear hd0 zDD n1 n2 n3 n4 n5 n6 n7 n8 n9 n10 n11 n12 hTI hTI2 hTb
    by_cases hneg : t < 0
    · have hq : -(t + 1) = (p : Int) := by have := HP.out; rw [if_pos hneg] at this; exact this
      go_wp2_with fail
      go_meet
      exact ⟨rfl, rfl⟩
    · have hq : t = (p : Int) := by have := HP.out; rw [if_neg hneg] at this; exact this
      go_wp2_with fail
      go_meet
      exact ⟨rfl, rfl⟩
  case rest =>
    obtain ⟨rfl, hwc⟩ := hcut
    subst hwc
    go_wp2_with fail
    refine (CRT.out _ HB1.out).mono ?_
    rintro e w2 ⟨rfl, hb2⟩
    have HB2 := Lib.hid hb2
    have e57 := HMM.out.dd
    have z29 := HZS.out
    have hd0i : (((DD[0]'(by omega)).toNat : Int) == 48) = dl := by rw [← hd0]; rw [Bool.eq_iff_iff]; simp; omega
    clear hb2
    go_upto_if 44 with (fail)
    obtain ⟨x0, hx0⟩ : ∃ x0, (w2.alloc (.cells #[.string ⟨#[83, 117, 110, 100, 97, 121]⟩, .string ⟨#[77, 111, 110, 100, 97, 121]⟩, .string ⟨#[84, 117, 101, 115, 100, 97, 121]⟩, .string ⟨#[87, 101, 100, 110, 101, 115, 100, 97, 121]⟩, .string ⟨#[84, 104, 117, 114, 115, 100, 97, 121]⟩, .string ⟨#[70, 114, 105, 100, 97, 121]⟩, .string ⟨#[83, 97, 116, 117, 114, 100, 97, 121]⟩] 9)).alloc (.cells #[.string ⟨#[83, 117, 110]⟩, .string ⟨#[77, 111, 110]⟩, .string ⟨#[84, 117, 101]⟩, .string ⟨#[87, 101, 100]⟩, .string ⟨#[84, 104, 117]⟩, .string ⟨#[70, 114, 105]⟩, .string ⟨#[83, 97, 116]⟩] 9) = x0 := ⟨_, rfl⟩
    rw [hx0]
    have hbx : Below w2.heap.size w2 x0 := by rw [← hx0]; exact below_two _ _ _
    have hr := HRW.out w2
    rw [hx0] at hr
    have HB3 := Lib.hid (HB2.out.trans (hbx.mono HB2.out.size))
    have HSEE : Hid (∀ y, Below x0.heap.size x0 y → y.cell? ⟨w2.heap.size, V, none⟩ = some (.string DVL) ∧ y.cell? ⟨w2.heap.size + 1, V, none⟩ = some (.string DV3)) := Lib.hid (fun y hy => ⟨(hy.cell (p := ⟨w2.heap.size, V, none⟩) (block_of hr.1)).trans hr.1, (hy.cell (p := ⟨w2.heap.size + 1, V, none⟩) (block_of hr.2)).trans hr.2⟩)
    clear hx0 hbx hr
    go_cut [10] (fun s10 wx => s10 = .string SP ∧ wx = x0)
    case first =>
      cases dl with
      | true =>
        have a1 := HD1.out rfl
        obtain ⟨D1, hD1⟩ : ∃ x, DD.extract 1 2 = x := ⟨_, rfl⟩
        rw [hD1] at a1
        have zD1 : D1.size = 1 := by rw [← hD1, ByteArray.size_extract, zDD]; rfl
        obtain ⟨ra, sa⟩ := add_str a1 (by rw [zD1]; decide)
        clear a1
        go_wp2_with fail
        go_meet
        exact ⟨rfl, rfl⟩
      | false =>
        have a1 := HD2.out rfl
        go_wp2_with fail
        go_meet
        exact ⟨rfl, rfl⟩
    case rest =>
      obtain ⟨rfl, hwc⟩ := hcut
      subst hwc
      clear hd0 hd0i HD1 HD2
      have s3 := HMM.out.s3
      have m3 := HMM.out.m3
      have cl := HMM.out.cl
      have yy := HMM.out.yy
      have y2 := HMM.out.y2
      obtain ⟨rx1, sx1⟩ := AX1.out
      obtain ⟨ru1, su1⟩ := AU1.out
      obtain ⟨ru2, su2⟩ := AU2.out
      obtain ⟨ru3, su3⟩ := AU3.out
      obtain ⟨ru4, su4⟩ := AU4.out
      obtain ⟨ru5, su5⟩ := AU5.out
      obtain ⟨ru6, su6⟩ := AU6.out
      obtain ⟨ru7, su7⟩ := AU7.out
      obtain ⟨rx2, sx2⟩ := AX2.out
      clear AX1 AU1 AU2 AU3 AU4 AU5 AU6 AU7 AX2
      obtain ⟨av, hav⟩ : ∃ a, (readF (plainT (atW (momOf T) V))).1 = a := ⟨_, rfl⟩
      obtain ⟨bv, hbv⟩ : ∃ a, (readF (plainT (atW (momOf T) V))).2 = a := ⟨_, rfl⟩
      obtain ⟨cv, hcv⟩ : ∃ a, (readF (oldT (atW (momOf T) V))).1 = a := ⟨_, rfl⟩
      obtain ⟨dv, hdv⟩ : ∃ a, (readF (oldT (atW (momOf T) V))).2 = a := ⟨_, rfl⟩
      rw [hav, hbv] at CP1
      rw [hcv, hdv] at CP2
      have HR0' : Hid (V ≠ W → av = 0 ∧ bv = 80 ∧ cv = 0 ∧ dv = 80) := Lib.hid (fun h => by obtain ⟨r1, r2⟩ := HR0.out h; rw [← hav, ← hbv, ← hcv, ← hdv, r1, r2]; exact ⟨rfl, rfl, rfl, rfl⟩)
      have HR1' : Hid (V = W → av = (T : Int) ∧ bv = 0 ∧ cv = (T : Int) ∧ dv = 0) := Lib.hid (fun h => by obtain ⟨r1, r2, _⟩ := HR1.out h; rw [← hav, ← hbv, ← hcv, ← hdv, r1, r2]; exact ⟨rfl, rfl, rfl, rfl⟩)
      have HSwc : Hid (Below wc.heap.size wc wc) := Lib.hid (Below.refl _ _)
      have HBwc := HB3
      clear hav hbv hcv hdv HR0 HB3
      go_wp2_with fail
      have hH0 := HSEE.out wc.drew (HSwc.out.drew)
      refine wp_region_held_drew (S := fun x => x.cell? ⟨w2.heap.size, V, none⟩ = some (.string DVL) ∧ x.cell? ⟨w2.heap.size + 1, V, none⟩ = some (.string DV3)) (by kernel_rfl) hH0 (fun hH => ?_)
      clear hH0
      refine wpAnyH_takeTo (i := 0) (d := some 49) (v := .slice (some ⟨w2.heap.size + 1, 0, none⟩) 7 7) rfl rfl (by kernel_rfl) (by kernel_rfl) (by kernel_rfl) (fun _ _ _ h => h) (Or.inl ⟨by rfl, fun x hx => ?_⟩) hH ?_
      · obtain ⟨l1, l2⟩ := hx
        go_simp
      try simp only [Act.put, List.setIfInBounds_toArray, List.set_cons_zero, List.set_cons_succ]
      refine wpAnyH_takeTo (i := 1) (d := some 50) (v := .int .i64 V) rfl rfl (by kernel_rfl) (by kernel_rfl) (by kernel_rfl) (fun _ _ _ h => h) (Or.inl ⟨by rfl, fun x hx => ?_⟩) hH ?_
      · obtain ⟨l1, l2⟩ := hx
        go_simp
      try simp only [Act.put, List.setIfInBounds_toArray, List.set_cons_zero, List.set_cons_succ]
      refine wpAnyH_takeTo (i := 2) (d := some 51) (v := .pointer (some ⟨w2.heap.size + 1, V, none⟩)) rfl rfl (by kernel_rfl) (by kernel_rfl) (by kernel_rfl) (fun _ _ _ h => h) (Or.inl ⟨by rfl, fun x hx => ?_⟩) hH ?_
      · obtain ⟨l1, l2⟩ := hx
        go_simp
      try simp only [Act.put, List.setIfInBounds_toArray, List.set_cons_zero, List.set_cons_succ]
      refine wpAnyH_takeTo (i := 3) (d := some 52) (v := .string DV3) rfl rfl (by kernel_rfl) (by kernel_rfl) (by kernel_rfl) (fun _ _ _ h => h) (Or.inl ⟨by rfl, fun x hx => ?_⟩) hH ?_
      · obtain ⟨l1, l2⟩ := hx
        go_simp
      try simp only [Act.put, List.setIfInBounds_toArray, List.set_cons_zero, List.set_cons_succ]
      refine wpAnyH_takeTo (i := 4) (d := some 53) (v := .string S) rfl rfl (by kernel_rfl) (by kernel_rfl) (by kernel_rfl) (fun _ _ _ h => h) (Or.inl ⟨by rfl, fun x hx => ?_⟩) hH ?_
      · obtain ⟨l1, l2⟩ := hx
        go_simp
      try simp only [Act.put, List.setIfInBounds_toArray, List.set_cons_zero, List.set_cons_succ]
      refine wpAnyH_takeTo (i := 5) (d := some 54) (v := .string S3) rfl rfl (by kernel_rfl) (by kernel_rfl) (by kernel_rfl) (fun _ _ _ h => h) (Or.inl ⟨by rfl, fun x hx => ?_⟩) hH ?_
      · obtain ⟨l1, l2⟩ := hx
        go_simp
      try simp only [Act.put, List.setIfInBounds_toArray, List.set_cons_zero, List.set_cons_succ]
      refine wpAnyH_takeTo (i := 6) (d := some 55) (v := .string X1) rfl rfl (by kernel_rfl) (by kernel_rfl) (by kernel_rfl) (fun _ _ _ h => h) (Or.inl ⟨by rfl, fun x hx => ?_⟩) hH ?_
      · obtain ⟨l1, l2⟩ := hx
        go_simp
      try simp only [Act.put, List.setIfInBounds_toArray, List.set_cons_zero, List.set_cons_succ]
      refine wpAnyH_stepTo (i := 7) (d := some 56) (by kernel_rfl) rfl rfl (by rfl) (fun u x => u = .tuple #[.int .i64 av, .int .i64 bv] ∧ Below wc.drew.heap.size wc.drew x) (fun K' hK' => ?_) ?_
      · go_simp
        go_at_call 10
        refine Calls.mono (CP1.out _ (HBwc.out.drew)) ?_
        rintro e y ⟨rfl, hy⟩
        exact hK' _ _ ⟨rfl, hy⟩
      rintro _ w5 ⟨rfl, hy⟩
      have hy2 : Below wc.heap.size wc w5 := ((Below.refl _ _).drew).trans hy
      have hs1 := HSwc.out.trans (hy2.mono HSwc.out.size)
      have HSw5 := Lib.hid hs1
      have HBw5 := Lib.hid (HBwc.out.trans (hy2.mono HBwc.out.size))
      have hH1 := HSEE.out _ hs1
      refine ⟨hH1, ?_⟩
      clear hH hy hy2 hs1
      have hH := hH1
      clear hH1
      try simp only [Act.put, List.setIfInBounds_toArray, List.set_cons_zero, List.set_cons_succ]
      refine wpAnyH_takeTo (i := 8) (d := some 48) (v := .tuple #[.int .i64 av, .int .i64 bv]) rfl rfl (by kernel_rfl) (by kernel_rfl) (by kernel_rfl) (fun _ _ _ h => h) (Or.inl ⟨by rfl, fun x hx => ?_⟩) hH ?_
      · obtain ⟨l1, l2⟩ := hx
        go_simp
      try simp only [Act.put, List.setIfInBounds_toArray, List.set_cons_zero, List.set_cons_succ]
      refine wpAnyH_takeTo (i := 9) (d := some 57) (v := .int .i64 av) rfl rfl (by kernel_rfl) (by kernel_rfl) (by kernel_rfl) (fun _ _ _ h => h) (Or.inl ⟨by rfl, fun x hx => ?_⟩) hH ?_
      · obtain ⟨l1, l2⟩ := hx
        go_simp
      try simp only [Act.put, List.setIfInBounds_toArray, List.set_cons_zero, List.set_cons_succ]
      refine wpAnyH_takeTo (i := 10) (d := some 58) (v := .int .i64 bv) rfl rfl (by kernel_rfl) (by kernel_rfl) (by kernel_rfl) (fun _ _ _ h => h) (Or.inl ⟨by rfl, fun x hx => ?_⟩) hH ?_
      · obtain ⟨l1, l2⟩ := hx
        go_simp
      try simp only [Act.put, List.setIfInBounds_toArray, List.set_cons_zero, List.set_cons_succ]
      refine wpAnyH_takeTo (i := 11) (d := some 11) (v := .int .i64 av) rfl rfl (by kernel_rfl) (by kernel_rfl) (by kernel_rfl) (fun _ _ _ h => h) (Or.inl ⟨by rfl, fun x hx => ?_⟩) hH ?_
      · obtain ⟨l1, l2⟩ := hx
        go_simp
      try simp only [Act.put, List.setIfInBounds_toArray, List.set_cons_zero, List.set_cons_succ]
      refine wpAnyH_takeTo (i := 12) (d := some 12) (v := .int .i64 bv) rfl rfl (by kernel_rfl) (by kernel_rfl) (by kernel_rfl) (fun _ _ _ h => h) (Or.inl ⟨by rfl, fun x hx => ?_⟩) hH ?_
      · obtain ⟨l1, l2⟩ := hx
        go_simp
      try simp only [Act.put, List.setIfInBounds_toArray, List.set_cons_zero, List.set_cons_succ]
      refine wpAnyH_done (by kernel_rfl) ?_ _
      clear hH
      go_wp2_with fail
      have hH0 := HSEE.out w5.drew (HSw5.out.drew)
      refine wp_region_held_drew (S := fun x => x.cell? ⟨w2.heap.size, V, none⟩ = some (.string DVL) ∧ x.cell? ⟨w2.heap.size + 1, V, none⟩ = some (.string DV3)) (by kernel_rfl) hH0 (fun hH => ?_)
      clear hH0
      refine wpAnyH_takeTo (i := 0) (d := some 60) (v := .slice (some ⟨w2.heap.size + 1, 0, none⟩) 7 7) rfl rfl (by kernel_rfl) (by kernel_rfl) (by kernel_rfl) (fun _ _ _ h => h) (Or.inl ⟨by rfl, fun x hx => ?_⟩) hH ?_
      · obtain ⟨l1, l2⟩ := hx
        go_simp
      try simp only [Act.put, List.setIfInBounds_toArray, List.set_cons_zero, List.set_cons_succ]
      refine wpAnyH_takeTo (i := 1) (d := some 61) (v := .int .i64 V) rfl rfl (by kernel_rfl) (by kernel_rfl) (by kernel_rfl) (fun _ _ _ h => h) (Or.inl ⟨by rfl, fun x hx => ?_⟩) hH ?_
      · obtain ⟨l1, l2⟩ := hx
        go_simp
      try simp only [Act.put, List.setIfInBounds_toArray, List.set_cons_zero, List.set_cons_succ]
      refine wpAnyH_takeTo (i := 2) (d := some 62) (v := .pointer (some ⟨w2.heap.size + 1, V, none⟩)) rfl rfl (by kernel_rfl) (by kernel_rfl) (by kernel_rfl) (fun _ _ _ h => h) (Or.inl ⟨by rfl, fun x hx => ?_⟩) hH ?_
      · obtain ⟨l1, l2⟩ := hx
        go_simp
      try simp only [Act.put, List.setIfInBounds_toArray, List.set_cons_zero, List.set_cons_succ]
      refine wpAnyH_takeTo (i := 3) (d := some 63) (v := .string DV3) rfl rfl (by kernel_rfl) (by kernel_rfl) (by kernel_rfl) (fun _ _ _ h => h) (Or.inl ⟨by rfl, fun x hx => ?_⟩) hH ?_
      · obtain ⟨l1, l2⟩ := hx
        go_simp
      try simp only [Act.put, List.setIfInBounds_toArray, List.set_cons_zero, List.set_cons_succ]
      refine wpAnyH_takeTo (i := 4) (d := some 64) (v := .string U1) rfl rfl (by kernel_rfl) (by kernel_rfl) (by kernel_rfl) (fun _ _ _ h => h) (Or.inl ⟨by rfl, fun x hx => ?_⟩) hH ?_
      · obtain ⟨l1, l2⟩ := hx
        go_simp
      try simp only [Act.put, List.setIfInBounds_toArray, List.set_cons_zero, List.set_cons_succ]
      refine wpAnyH_takeTo (i := 5) (d := some 65) (v := .string S) rfl rfl (by kernel_rfl) (by kernel_rfl) (by kernel_rfl) (fun _ _ _ h => h) (Or.inl ⟨by rfl, fun x hx => ?_⟩) hH ?_
      · obtain ⟨l1, l2⟩ := hx
        go_simp
      try simp only [Act.put, List.setIfInBounds_toArray, List.set_cons_zero, List.set_cons_succ]
      refine wpAnyH_takeTo (i := 6) (d := some 66) (v := .string M3) rfl rfl (by kernel_rfl) (by kernel_rfl) (by kernel_rfl) (fun _ _ _ h => h) (Or.inl ⟨by rfl, fun x hx => ?_⟩) hH ?_
      · obtain ⟨l1, l2⟩ := hx
        go_simp
      try simp only [Act.put, List.setIfInBounds_toArray, List.set_cons_zero, List.set_cons_succ]
      refine wpAnyH_takeTo (i := 7) (d := some 67) (v := .string U2) rfl rfl (by kernel_rfl) (by kernel_rfl) (by kernel_rfl) (fun _ _ _ h => h) (Or.inl ⟨by rfl, fun x hx => ?_⟩) hH ?_
      · obtain ⟨l1, l2⟩ := hx
        go_simp
      try simp only [Act.put, List.setIfInBounds_toArray, List.set_cons_zero, List.set_cons_succ]
      refine wpAnyH_takeTo (i := 8) (d := some 68) (v := .string U3) rfl rfl (by kernel_rfl) (by kernel_rfl) (by kernel_rfl) (fun _ _ _ h => h) (Or.inl ⟨by rfl, fun x hx => ?_⟩) hH ?_
      · obtain ⟨l1, l2⟩ := hx
        go_simp
      try simp only [Act.put, List.setIfInBounds_toArray, List.set_cons_zero, List.set_cons_succ]
      refine wpAnyH_takeTo (i := 9) (d := some 69) (v := .string SP) rfl rfl (by kernel_rfl) (by kernel_rfl) (by kernel_rfl) (fun _ _ _ h => h) (Or.inl ⟨by rfl, fun x hx => ?_⟩) hH ?_
      · obtain ⟨l1, l2⟩ := hx
        go_simp
      try simp only [Act.put, List.setIfInBounds_toArray, List.set_cons_zero, List.set_cons_succ]
      refine wpAnyH_takeTo (i := 10) (d := some 70) (v := .string U4) rfl rfl (by kernel_rfl) (by kernel_rfl) (by kernel_rfl) (fun _ _ _ h => h) (Or.inl ⟨by rfl, fun x hx => ?_⟩) hH ?_
      · obtain ⟨l1, l2⟩ := hx
        go_simp
      try simp only [Act.put, List.setIfInBounds_toArray, List.set_cons_zero, List.set_cons_succ]
      refine wpAnyH_takeTo (i := 11) (d := some 71) (v := .string U5) rfl rfl (by kernel_rfl) (by kernel_rfl) (by kernel_rfl) (fun _ _ _ h => h) (Or.inl ⟨by rfl, fun x hx => ?_⟩) hH ?_
      · obtain ⟨l1, l2⟩ := hx
        go_simp
      try simp only [Act.put, List.setIfInBounds_toArray, List.set_cons_zero, List.set_cons_succ]
      refine wpAnyH_takeTo (i := 12) (d := some 72) (v := .string S) rfl rfl (by kernel_rfl) (by kernel_rfl) (by kernel_rfl) (fun _ _ _ h => h) (Or.inl ⟨by rfl, fun x hx => ?_⟩) hH ?_
      · obtain ⟨l1, l2⟩ := hx
        go_simp
      try simp only [Act.put, List.setIfInBounds_toArray, List.set_cons_zero, List.set_cons_succ]
      refine wpAnyH_takeTo (i := 13) (d := some 73) (v := .string CL) rfl rfl (by kernel_rfl) (by kernel_rfl) (by kernel_rfl) (fun _ _ _ h => h) (Or.inl ⟨by rfl, fun x hx => ?_⟩) hH ?_
      · obtain ⟨l1, l2⟩ := hx
        go_simp
      try simp only [Act.put, List.setIfInBounds_toArray, List.set_cons_zero, List.set_cons_succ]
      refine wpAnyH_takeTo (i := 14) (d := some 74) (v := .string U6) rfl rfl (by kernel_rfl) (by kernel_rfl) (by kernel_rfl) (fun _ _ _ h => h) (Or.inl ⟨by rfl, fun x hx => ?_⟩) hH ?_
      · obtain ⟨l1, l2⟩ := hx
        go_simp
      try simp only [Act.put, List.setIfInBounds_toArray, List.set_cons_zero, List.set_cons_succ]
      refine wpAnyH_takeTo (i := 15) (d := some 75) (v := .string U7) rfl rfl (by kernel_rfl) (by kernel_rfl) (by kernel_rfl) (fun _ _ _ h => h) (Or.inl ⟨by rfl, fun x hx => ?_⟩) hH ?_
      · obtain ⟨l1, l2⟩ := hx
        go_simp
      try simp only [Act.put, List.setIfInBounds_toArray, List.set_cons_zero, List.set_cons_succ]
      refine wpAnyH_takeTo (i := 16) (d := some 76) (v := .string S) rfl rfl (by kernel_rfl) (by kernel_rfl) (by kernel_rfl) (fun _ _ _ h => h) (Or.inl ⟨by rfl, fun x hx => ?_⟩) hH ?_
      · obtain ⟨l1, l2⟩ := hx
        go_simp
      try simp only [Act.put, List.setIfInBounds_toArray, List.set_cons_zero, List.set_cons_succ]
      refine wpAnyH_takeTo (i := 17) (d := some 77) (v := .string YY) rfl rfl (by kernel_rfl) (by kernel_rfl) (by kernel_rfl) (fun _ _ _ h => h) (Or.inl ⟨by rfl, fun x hx => ?_⟩) hH ?_
      · obtain ⟨l1, l2⟩ := hx
        go_simp
      try simp only [Act.put, List.setIfInBounds_toArray, List.set_cons_zero, List.set_cons_succ]
      refine wpAnyH_takeTo (i := 18) (d := some 78) (v := .string X2) rfl rfl (by kernel_rfl) (by kernel_rfl) (by kernel_rfl) (fun _ _ _ h => h) (Or.inl ⟨by rfl, fun x hx => ?_⟩) hH ?_
      · obtain ⟨l1, l2⟩ := hx
        go_simp
      try simp only [Act.put, List.setIfInBounds_toArray, List.set_cons_zero, List.set_cons_succ]
      refine wpAnyH_stepTo (i := 19) (d := some 79) (by kernel_rfl) rfl rfl (by rfl) (fun u x => u = .tuple #[.int .i64 cv, .int .i64 dv] ∧ Below w5.drew.heap.size w5.drew x) (fun K' hK' => ?_) ?_
      · go_simp
        go_at_call 10
        refine Calls.mono (CP2.out _ (HBw5.out.drew)) ?_
        rintro e y ⟨rfl, hy⟩
        exact hK' _ _ ⟨rfl, hy⟩
      rintro _ w6 ⟨rfl, hy⟩
      have hy2 : Below w5.heap.size w5 w6 := ((Below.refl _ _).drew).trans hy
      have hs1 := HSw5.out.trans (hy2.mono HSw5.out.size)
      have HSw6 := Lib.hid hs1
      have HBw6 := Lib.hid (HBw5.out.trans (hy2.mono HBw5.out.size))
      have hH1 := HSEE.out _ hs1
      refine ⟨hH1, ?_⟩
      clear hH hy hy2 hs1
      have hH := hH1
      clear hH1
      try simp only [Act.put, List.setIfInBounds_toArray, List.set_cons_zero, List.set_cons_succ]
      refine wpAnyH_takeTo (i := 20) (d := some 59) (v := .tuple #[.int .i64 cv, .int .i64 dv]) rfl rfl (by kernel_rfl) (by kernel_rfl) (by kernel_rfl) (fun _ _ _ h => h) (Or.inl ⟨by rfl, fun x hx => ?_⟩) hH ?_
      · obtain ⟨l1, l2⟩ := hx
        go_simp
      try simp only [Act.put, List.setIfInBounds_toArray, List.set_cons_zero, List.set_cons_succ]
      refine wpAnyH_takeTo (i := 21) (d := some 80) (v := .int .i64 cv) rfl rfl (by kernel_rfl) (by kernel_rfl) (by kernel_rfl) (fun _ _ _ h => h) (Or.inl ⟨by rfl, fun x hx => ?_⟩) hH ?_
      · obtain ⟨l1, l2⟩ := hx
        go_simp
      try simp only [Act.put, List.setIfInBounds_toArray, List.set_cons_zero, List.set_cons_succ]
      refine wpAnyH_takeTo (i := 22) (d := some 81) (v := .int .i64 dv) rfl rfl (by kernel_rfl) (by kernel_rfl) (by kernel_rfl) (fun _ _ _ h => h) (Or.inl ⟨by rfl, fun x hx => ?_⟩) hH ?_
      · obtain ⟨l1, l2⟩ := hx
        go_simp
      try simp only [Act.put, List.setIfInBounds_toArray, List.set_cons_zero, List.set_cons_succ]
      refine wpAnyH_takeTo (i := 23) (d := some 13) (v := .int .i64 cv) rfl rfl (by kernel_rfl) (by kernel_rfl) (by kernel_rfl) (fun _ _ _ h => h) (Or.inl ⟨by rfl, fun x hx => ?_⟩) hH ?_
      · obtain ⟨l1, l2⟩ := hx
        go_simp
      try simp only [Act.put, List.setIfInBounds_toArray, List.set_cons_zero, List.set_cons_succ]
      refine wpAnyH_takeTo (i := 24) (d := some 14) (v := .int .i64 dv) rfl rfl (by kernel_rfl) (by kernel_rfl) (by kernel_rfl) (fun _ _ _ h => h) (Or.inl ⟨by rfl, fun x hx => ?_⟩) hH ?_
      · obtain ⟨l1, l2⟩ := hx
        go_simp
      try simp only [Act.put, List.setIfInBounds_toArray, List.set_cons_zero, List.set_cons_succ]
      refine wpAnyH_done (by kernel_rfl) ?_ _
      clear hH
      by_cases hvw : V = W
      · obtain ⟨ea, eb, ec, ed⟩ := HR1'.out hvw
        subst ea; subst eb; subst ec; subst ed
        have ev : ((V : Int) != (W : Int)) = false := by simp [hvw]
        have ev2 : (V != W) = false := by simp [hvw]
        have et : ((T : Int) != (T : Int)) = false := by simp
        have et2 : ((T : Int) == (T : Int)) = true := by simp
        have HVW := Lib.hid hvw
        clear hvw CP1 CP2 HR0' HR1' rx1 ru1 ru2 ru3 ru4 ru5 ru6 ru7 rx2 sx1 su1 su2 su3 su4 su5 su6 su7 sx2
        by_cases hlt : T < 2145916800
        · have hl := HR1.out HVW.out
          have hr3 := hl.2.2 hlt
          rw [hr3] at CP3
          have il : ¬ (2145916800 : Int) ≤ (T : Int) := by omega
          have ild : decide ((2145916800 : Int) ≤ (T : Int)) = false := decide_eq_false il
          have iln : decide (2145916800 ≤ T) = false := decide_eq_false (by omega)
          obtain ⟨rAL1, sAL1⟩ := AL1.out
          obtain ⟨rAL2, sAL2⟩ := AL2.out
          obtain ⟨rAL3, sAL3⟩ := AL3.out
          obtain ⟨rAL4, sAL4⟩ := AL4.out
          obtain ⟨rAL5, sAL5⟩ := AL5.out
          obtain ⟨rAL6, sAL6⟩ := AL6.out
          obtain ⟨rAL7, sAL7⟩ := AL7.out
          obtain ⟨rAL8, sAL8⟩ := AL8.out
          obtain ⟨rAX3, sAX3⟩ := AX3.out
          clear AL1 AL2 AL3 AL4 AL5 AL6 AL7 AL8 AX3 hl hr3 hlt
          go_wp2_with fail
          have hH0 := HSEE.out w6.drew (HSw6.out.drew)
          refine wp_region_held_drew (S := fun x => x.cell? ⟨w2.heap.size, V, none⟩ = some (.string DVL) ∧ x.cell? ⟨w2.heap.size + 1, V, none⟩ = some (.string DV3)) (by kernel_rfl) hH0 (fun hH => ?_)
          clear hH0
          refine wpAnyH_takeTo (i := 0) (d := some 108) (v := .slice (some ⟨w2.heap.size, 0, none⟩) 7 7) rfl rfl (by kernel_rfl) (by kernel_rfl) (by kernel_rfl) (fun _ _ _ h => h) (Or.inl ⟨by rfl, fun x hx => ?_⟩) hH ?_
          · obtain ⟨l1, l2⟩ := hx
            go_simp
          try simp only [Act.put, List.setIfInBounds_toArray, List.set_cons_zero, List.set_cons_succ]
          refine wpAnyH_takeTo (i := 1) (d := some 109) (v := .int .i64 V) rfl rfl (by kernel_rfl) (by kernel_rfl) (by kernel_rfl) (fun _ _ _ h => h) (Or.inl ⟨by rfl, fun x hx => ?_⟩) hH ?_
          · obtain ⟨l1, l2⟩ := hx
            go_simp
          try simp only [Act.put, List.setIfInBounds_toArray, List.set_cons_zero, List.set_cons_succ]
          refine wpAnyH_takeTo (i := 2) (d := some 110) (v := .pointer (some ⟨w2.heap.size, V, none⟩)) rfl rfl (by kernel_rfl) (by kernel_rfl) (by kernel_rfl) (fun _ _ _ h => h) (Or.inl ⟨by rfl, fun x hx => ?_⟩) hH ?_
          · obtain ⟨l1, l2⟩ := hx
            go_simp
          try simp only [Act.put, List.setIfInBounds_toArray, List.set_cons_zero, List.set_cons_succ]
          refine wpAnyH_takeTo (i := 3) (d := some 111) (v := .string DVL) rfl rfl (by kernel_rfl) (by kernel_rfl) (by kernel_rfl) (fun _ _ _ h => h) (Or.inl ⟨by rfl, fun x hx => ?_⟩) hH ?_
          · obtain ⟨l1, l2⟩ := hx
            go_simp
          try simp only [Act.put, List.setIfInBounds_toArray, List.set_cons_zero, List.set_cons_succ]
          refine wpAnyH_takeTo (i := 4) (d := some 112) (v := .string L1) rfl rfl (by kernel_rfl) (by kernel_rfl) (by kernel_rfl) (fun _ _ _ h => h) (Or.inl ⟨by rfl, fun x hx => ?_⟩) hH ?_
          · obtain ⟨l1, l2⟩ := hx
            go_simp
          try simp only [Act.put, List.setIfInBounds_toArray, List.set_cons_zero, List.set_cons_succ]
          refine wpAnyH_takeTo (i := 5) (d := some 113) (v := .string S) rfl rfl (by kernel_rfl) (by kernel_rfl) (by kernel_rfl) (fun _ _ _ h => h) (Or.inl ⟨by rfl, fun x hx => ?_⟩) hH ?_
          · obtain ⟨l1, l2⟩ := hx
            go_simp
          try simp only [Act.put, List.setIfInBounds_toArray, List.set_cons_zero, List.set_cons_succ]
          refine wpAnyH_takeTo (i := 6) (d := some 114) (v := .string DD) rfl rfl (by kernel_rfl) (by kernel_rfl) (by kernel_rfl) (fun _ _ _ h => h) (Or.inl ⟨by rfl, fun x hx => ?_⟩) hH ?_
          · obtain ⟨l1, l2⟩ := hx
            go_simp
          try simp only [Act.put, List.setIfInBounds_toArray, List.set_cons_zero, List.set_cons_succ]
          refine wpAnyH_takeTo (i := 7) (d := some 115) (v := .string L2) rfl rfl (by kernel_rfl) (by kernel_rfl) (by kernel_rfl) (fun _ _ _ h => h) (Or.inl ⟨by rfl, fun x hx => ?_⟩) hH ?_
          · obtain ⟨l1, l2⟩ := hx
            go_simp
          try simp only [Act.put, List.setIfInBounds_toArray, List.set_cons_zero, List.set_cons_succ]
          refine wpAnyH_takeTo (i := 8) (d := some 116) (v := .string L3) rfl rfl (by kernel_rfl) (by kernel_rfl) (by kernel_rfl) (fun _ _ _ h => h) (Or.inl ⟨by rfl, fun x hx => ?_⟩) hH ?_
          · obtain ⟨l1, l2⟩ := hx
            go_simp
          try simp only [Act.put, List.setIfInBounds_toArray, List.set_cons_zero, List.set_cons_succ]
          refine wpAnyH_takeTo (i := 9) (d := some 117) (v := .string S) rfl rfl (by kernel_rfl) (by kernel_rfl) (by kernel_rfl) (fun _ _ _ h => h) (Or.inl ⟨by rfl, fun x hx => ?_⟩) hH ?_
          · obtain ⟨l1, l2⟩ := hx
            go_simp
          try simp only [Act.put, List.setIfInBounds_toArray, List.set_cons_zero, List.set_cons_succ]
          refine wpAnyH_takeTo (i := 10) (d := some 118) (v := .string M3) rfl rfl (by kernel_rfl) (by kernel_rfl) (by kernel_rfl) (fun _ _ _ h => h) (Or.inl ⟨by rfl, fun x hx => ?_⟩) hH ?_
          · obtain ⟨l1, l2⟩ := hx
            go_simp
          try simp only [Act.put, List.setIfInBounds_toArray, List.set_cons_zero, List.set_cons_succ]
          refine wpAnyH_takeTo (i := 11) (d := some 119) (v := .string L4) rfl rfl (by kernel_rfl) (by kernel_rfl) (by kernel_rfl) (fun _ _ _ h => h) (Or.inl ⟨by rfl, fun x hx => ?_⟩) hH ?_
          · obtain ⟨l1, l2⟩ := hx
            go_simp
          try simp only [Act.put, List.setIfInBounds_toArray, List.set_cons_zero, List.set_cons_succ]
          refine wpAnyH_takeTo (i := 12) (d := some 120) (v := .string L5) rfl rfl (by kernel_rfl) (by kernel_rfl) (by kernel_rfl) (fun _ _ _ h => h) (Or.inl ⟨by rfl, fun x hx => ?_⟩) hH ?_
          · obtain ⟨l1, l2⟩ := hx
            go_simp
          try simp only [Act.put, List.setIfInBounds_toArray, List.set_cons_zero, List.set_cons_succ]
          refine wpAnyH_takeTo (i := 13) (d := some 121) (v := .string S) rfl rfl (by kernel_rfl) (by kernel_rfl) (by kernel_rfl) (fun _ _ _ h => h) (Or.inl ⟨by rfl, fun x hx => ?_⟩) hH ?_
          · obtain ⟨l1, l2⟩ := hx
            go_simp
          try simp only [Act.put, List.setIfInBounds_toArray, List.set_cons_zero, List.set_cons_succ]
          refine wpAnyH_takeTo (i := 14) (d := some 122) (v := .string Y2) rfl rfl (by kernel_rfl) (by kernel_rfl) (by kernel_rfl) (fun _ _ _ h => h) (Or.inl ⟨by rfl, fun x hx => ?_⟩) hH ?_
          · obtain ⟨l1, l2⟩ := hx
            go_simp
          try simp only [Act.put, List.setIfInBounds_toArray, List.set_cons_zero, List.set_cons_succ]
          refine wpAnyH_takeTo (i := 15) (d := some 123) (v := .string L6) rfl rfl (by kernel_rfl) (by kernel_rfl) (by kernel_rfl) (fun _ _ _ h => h) (Or.inl ⟨by rfl, fun x hx => ?_⟩) hH ?_
          · obtain ⟨l1, l2⟩ := hx
            go_simp
          try simp only [Act.put, List.setIfInBounds_toArray, List.set_cons_zero, List.set_cons_succ]
          refine wpAnyH_takeTo (i := 16) (d := some 124) (v := .string L7) rfl rfl (by kernel_rfl) (by kernel_rfl) (by kernel_rfl) (fun _ _ _ h => h) (Or.inl ⟨by rfl, fun x hx => ?_⟩) hH ?_
          · obtain ⟨l1, l2⟩ := hx
            go_simp
          try simp only [Act.put, List.setIfInBounds_toArray, List.set_cons_zero, List.set_cons_succ]
          refine wpAnyH_takeTo (i := 17) (d := some 125) (v := .string S) rfl rfl (by kernel_rfl) (by kernel_rfl) (by kernel_rfl) (fun _ _ _ h => h) (Or.inl ⟨by rfl, fun x hx => ?_⟩) hH ?_
          · obtain ⟨l1, l2⟩ := hx
            go_simp
          try simp only [Act.put, List.setIfInBounds_toArray, List.set_cons_zero, List.set_cons_succ]
          refine wpAnyH_takeTo (i := 18) (d := some 126) (v := .string CL) rfl rfl (by kernel_rfl) (by kernel_rfl) (by kernel_rfl) (fun _ _ _ h => h) (Or.inl ⟨by rfl, fun x hx => ?_⟩) hH ?_
          · obtain ⟨l1, l2⟩ := hx
            go_simp
          try simp only [Act.put, List.setIfInBounds_toArray, List.set_cons_zero, List.set_cons_succ]
          refine wpAnyH_takeTo (i := 19) (d := some 127) (v := .string L8) rfl rfl (by kernel_rfl) (by kernel_rfl) (by kernel_rfl) (fun _ _ _ h => h) (Or.inl ⟨by rfl, fun x hx => ?_⟩) hH ?_
          · obtain ⟨l1, l2⟩ := hx
            go_simp
          try simp only [Act.put, List.setIfInBounds_toArray, List.set_cons_zero, List.set_cons_succ]
          refine wpAnyH_takeTo (i := 20) (d := some 128) (v := .string X3) rfl rfl (by kernel_rfl) (by kernel_rfl) (by kernel_rfl) (fun _ _ _ h => h) (Or.inl ⟨by rfl, fun x hx => ?_⟩) hH ?_
          · obtain ⟨l1, l2⟩ := hx
            go_simp
          try simp only [Act.put, List.setIfInBounds_toArray, List.set_cons_zero, List.set_cons_succ]
          refine wpAnyH_stepTo (i := 21) (d := some 129) (by kernel_rfl) rfl rfl (by rfl) (fun u x => u = .tuple #[.int .i64 (T : Int), .int .i64 0] ∧ Below w6.drew.heap.size w6.drew x) (fun K' hK' => ?_) ?_
          · go_simp
            go_at_call 10
            refine Calls.mono (CP3.out _ (HBw6.out.drew)) ?_
            rintro e y ⟨rfl, hy⟩
            exact hK' _ _ ⟨rfl, hy⟩
          rintro _ w7 ⟨rfl, hy⟩
          have hy2 : Below w6.heap.size w6 w7 := ((Below.refl _ _).drew).trans hy
          have hs1 := HSw6.out.trans (hy2.mono HSw6.out.size)
          have HSw7 := Lib.hid hs1
          have HBw7 := Lib.hid (HBw6.out.trans (hy2.mono HBw6.out.size))
          have hH1 := HSEE.out _ hs1
          refine ⟨hH1, ?_⟩
          clear hH hy hy2 hs1
          have hH := hH1
          clear hH1
          try simp only [Act.put, List.setIfInBounds_toArray, List.set_cons_zero, List.set_cons_succ]
          refine wpAnyH_takeTo (i := 22) (d := some 107) (v := .tuple #[.int .i64 (T : Int), .int .i64 0]) rfl rfl (by kernel_rfl) (by kernel_rfl) (by kernel_rfl) (fun _ _ _ h => h) (Or.inl ⟨by rfl, fun x hx => ?_⟩) hH ?_
          · obtain ⟨l1, l2⟩ := hx
            go_simp
          try simp only [Act.put, List.setIfInBounds_toArray, List.set_cons_zero, List.set_cons_succ]
          refine wpAnyH_takeTo (i := 23) (d := some 130) (v := .int .i64 (T : Int)) rfl rfl (by kernel_rfl) (by kernel_rfl) (by kernel_rfl) (fun _ _ _ h => h) (Or.inl ⟨by rfl, fun x hx => ?_⟩) hH ?_
          · obtain ⟨l1, l2⟩ := hx
            go_simp
          try simp only [Act.put, List.setIfInBounds_toArray, List.set_cons_zero, List.set_cons_succ]
          refine wpAnyH_takeTo (i := 24) (d := some 131) (v := .int .i64 0) rfl rfl (by kernel_rfl) (by kernel_rfl) (by kernel_rfl) (fun _ _ _ h => h) (Or.inl ⟨by rfl, fun x hx => ?_⟩) hH ?_
          · obtain ⟨l1, l2⟩ := hx
            go_simp
          try simp only [Act.put, List.setIfInBounds_toArray, List.set_cons_zero, List.set_cons_succ]
          refine wpAnyH_takeTo (i := 25) (d := some 15) (v := .int .i64 (T : Int)) rfl rfl (by kernel_rfl) (by kernel_rfl) (by kernel_rfl) (fun _ _ _ h => h) (Or.inl ⟨by rfl, fun x hx => ?_⟩) hH ?_
          · obtain ⟨l1, l2⟩ := hx
            go_simp
          try simp only [Act.put, List.setIfInBounds_toArray, List.set_cons_zero, List.set_cons_succ]
          refine wpAnyH_takeTo (i := 26) (d := some 16) (v := .int .i64 0) rfl rfl (by kernel_rfl) (by kernel_rfl) (by kernel_rfl) (fun _ _ _ h => h) (Or.inl ⟨by rfl, fun x hx => ?_⟩) hH ?_
          · obtain ⟨l1, l2⟩ := hx
            go_simp
          try simp only [Act.put, List.setIfInBounds_toArray, List.set_cons_zero, List.set_cons_succ]
          refine wpAnyH_done (by kernel_rfl) ?_ _
          clear hH
          go_wp2
          go_ret
          exact ⟨rfl, HBw7.out⟩
        · have il : (2145916800 : Int) ≤ (T : Int) := by omega
          have ild : decide ((2145916800 : Int) ≤ (T : Int)) = true := decide_eq_true il
          have iln : decide (2145916800 ≤ T) = true := decide_eq_true (by omega)
          clear hlt
          go_wp2
          go_ret
          exact ⟨rfl, HBw6.out⟩
      · obtain ⟨ea, eb, ec, ed⟩ := HR0'.out hvw
        subst ea; subst eb; subst ec; subst ed
        have ev : ((V : Int) != (W : Int)) = true := by simp; omega
        have ev2 : (V != W) = true := by simp; omega
        clear hvw CP1 CP2 HR0' HR1'
        go_wp2
        go_ret
        exact ⟨rfl, HBw6.out⟩
end Go.Proofs.YtfnpncmdeimcbaaDoor
