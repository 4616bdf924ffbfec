/-
  CtrlWrites' walk.
  A control that came in, opened; the table that is laid.
-/
import Derived.Deep.RegionHeld3
import Derived.OpenShut
import Derived.Lib.SmallJoins
import Derived.Deep.Fields
import Derived.Lib.LaidTab
import Derived.Test.YtmpgpcpeegdcaaaDoorRows
import Derived.Test.YtmpgpcpeegdcaaaDoorMg18
import Derived.Test.YtmpgpcpeegdcaaaDoorMg20
namespace Go.Proofs.YtmpgpcpeegdcaaaDoor
open Go.RowKit HeadMath HeadS

def numsL (c : Ctl) : List Int := [c.maxA, c.sMax, c.minF, c.maxS]
theorem nums_fair {c : Ctl} (h : ∀ j (hj : j < (numsL c).length), -1 ≤ (numsL c)[j] ∧ (numsL c)[j] ≤ 2147483647) : c.fair :=
  ⟨h 0 (by show 0 < 4; omega), h 1 (by show 1 < 4; omega), h 2 (by show 2 < 4; omega), h 3 (by show 3 < 4; omega)⟩
theorem nums_at {w : World} {c : Ctl} {k : Nat} (hk : k < (numsL c).length) : (w.alloc (.cells #[.int .i64 c.maxA, .int .i64 c.sMax, .int .i64 c.minF, .int .i64 c.maxS] 2)).cell? ⟨w.heap.size, k, none⟩ = some (.int .i64 (numsL c)[k]) := by
  have e := heap_alloc_new w (.cells #[.int .i64 c.maxA, .int .i64 c.sMax, .int .i64 c.minF, .int .i64 c.maxS] 2)
  rw [Lib.cell_of_heap e]
  have h4 : (numsL c).length = 4 := rfl
  match k, hk with
  | 0, _ => rfl
  | 1, _ => rfl
  | 2, _ => rfl
  | 3, _ => rfl
  | k + 4, hk => omega
theorem few_one {t : ByteArray} (h : t.size ≤ 1000000) : FewF [(cacheL, t)] := by
  refine ⟨by show 1 ≤ 100000; omega, fun j hj => ?_⟩
  obtain rfl : j = 0 := by simpa using hj
  exact ⟨by show cacheL.size ≤ 1000000; decide, h⟩
set_option maxRecDepth 100000 in
set_option maxHeartbeats 16000000 in
theorem writes_any (c : Ctl) (w : World) (hc : c.wide) (ht : TabW w) (hw : 0 < w.heap.size) : Calls Tryd.prog 3 #[ctlV c] w (Yes w) := by
  obtain ⟨w0, hw0⟩ : ∃ w0, w.alloc (.cells #[.bool c.noStore, .bool c.noCache, .bool c.priv, .bool c.pub, .bool c.must, .bool c.prox, .bool c.only, .bool c.anyStale, .int .i64 c.maxA, .int .i64 c.sMax, .int .i64 c.minF, .int .i64 c.maxS] 23) = w0 := ⟨_, rfl⟩
  have hb0 : Below w.heap.size w w0 := by rw [← hw0]; exact ((Spares.refl nowhere w).alloc _).below0
  have hz0 : w0.heap.size = w.heap.size + 1 := by rw [← hw0]; simp
  have hc0 : CtlAt w0 w.heap.size c := by
    unfold CtlAt
    rw [← hw0]
    exact heap_alloc_new w _
  have HK : Hid (∀ x, Below w0.heap.size w0 x → (CtlAt x w.heap.size c ∧ TabW x ∧ 0 < x.heap.size) ∧ Below w.heap.size w x) := Lib.hid (fun x hx => by
    have hbx := hb0.trans (hx.mono (by omega))
    exact ⟨⟨(hx.block _ (by omega)).trans hc0, ht.below hbx, by have := hbx.size; omega⟩, hbx⟩)
  have HW0 := Lib.hid hw0
  have HCW := Lib.hid hc
  have hx0 := HK.out w0 (Below.refl _ _)
  have HX0 := Lib.hid hx0
  obtain ⟨t, htx⟩ : ∃ t : ByteArray, (⟨(textF c).toArray⟩ : ByteArray) = t := ⟨_, rfl⟩
  have HTX : Hid (t = outB (itemsF c)) := Lib.hid htx.symm
  have htz : t.size ≤ 1488 := by
    have := text_len c
    rw [← htx]
    show (textF c).toArray.size ≤ 1488
    simpa using this
  have cT := fun x hx => text_any c x hc (HK.out x hx).1.2.1 (HK.out x hx).1.2.2
  have cR := fun x => refText_any c x
  unfold TextPost at cT cR
  simp only [htx] at cT cR
  have CT := Lib.hid cT
  have CR := Lib.hid cR
  have hself : (t.toList == t.toList) = true := beq_self_eq_true _
  have HNUM := Lib.hid (fun (x : World) (k : Nat) (hk : k < (numsL c).length) => nums_at (w := x) hk)
  clear hw0 hb0 hz0 hc0 hc ht hw hx0 htx cT cR
  unfold ctlV at CT CR ⊢
  unfold Yes
  go_enter Tryd.func3, Tryd.ntmps3
  go_wp2_with fail
  change Calls _ _ _ (w.alloc (.cells #[.bool c.noStore, .bool c.noCache, .bool c.priv, .bool c.pub, .bool c.must, .bool c.prox, .bool c.only, .bool c.anyStale, .int .i64 c.maxA, .int .i64 c.sMax, .int .i64 c.minF, .int .i64 c.maxS] 23)) _
  rw [HW0.out]
  refine (known_any w0 HX0.out.1.2.1 HX0.out.1.2.2).mono ?_
  rintro e w1 ⟨rfl, hb1⟩
  have HB1 := Lib.hid hb1
  obtain ⟨n0, n1, n2, n3, n4, n5, n6, n7, n8, n9, n10, n11⟩ := ctl_reads (HK.out w1 hb1).1.1
  clear hb1
  go_wp2_with fail
  refine (CT.out w1 HB1.out).mono ?_
  rintro e w2 ⟨rfl, hb2⟩
  have HB2 := Lib.hid (HB1.out.trans (hb2.mono HB1.out.size))
  clear n0 n1 n2 n3 n4 n5 n6 n7 n8 n9 n10 n11 hb2
  obtain ⟨n0, n1, n2, n3, n4, n5, n6, n7, n8, n9, n10, n11⟩ := ctl_reads (HK.out w2 HB2.out).1.1
  go_wp2_with fail
  refine (CR.out w2).mono ?_
  rintro e w3 ⟨rfl, hb3⟩
  have HB3 := Lib.hid (HB2.out.trans (hb3.mono HB2.out.size))
  clear n0 n1 n2 n3 n4 n5 n6 n7 n8 n9 n10 n11 hb3
  have hk3 := HK.out w3 HB3.out
  obtain ⟨n0, n1, n2, n3, n4, n5, n6, n7, n8, n9, n10, n11⟩ := ctl_reads hk3.1.1
  obtain ⟨v, hv⟩ : ∃ v, w3.alloc (.cells #[.int .i64 c.maxA, .int .i64 c.sMax, .int .i64 c.minF, .int .i64 c.maxS] 2) = v := ⟨_, rfl⟩
  have hbv : Below w0.heap.size w0 v := by rw [← hv]; exact HB3.out.alloc HB3.out.size _
  have hnv : ∀ k (hk : k < (numsL c).length), v.cell? ⟨w3.heap.size, k, none⟩ = some (.int .i64 (numsL c)[k]) := fun k hk => by rw [← hv]; exact HNUM.out w3 k hk
  have HNV := Lib.hid hnv
  have HV := Lib.hid hv
  have HBV := Lib.hid hbv
  obtain ⟨ns, hns⟩ : ∃ ns, numsL c = ns := ⟨_, rfl⟩
  have hn4 : ns.length = 4 := by rw [← hns]; rfl
  have HFAIR : Hid ((∀ j (hj : j < ns.length), -1 ≤ ns[j] ∧ ns[j] ≤ 2147483647) → c.fair) := Lib.hid (by subst hns; exact nums_fair)
  rw [hns] at HNV
  clear hv hbv hnv hk3 hns HNUM
  go_wp2
  change Code.wp _ _ _ _ (w3.alloc (.cells #[.int .i64 c.maxA, .int .i64 c.sMax, .int .i64 c.minF, .int .i64 c.maxS] 2))
  rw [HV.out]
  clear n0 n1 n2 n3 n4 n5 n6 n7 n8 n9 n10 n11
  go_loop [5] (fun i => ∃ k : Nat, k ≤ 4 ∧ i = .int .i64 k ∧ Hid (∀ j (hj : j < ns.length), j < k → -1 ≤ ns[j] ∧ ns[j] ≤ 2147483647)) (fun i => 4 - (intOf i).toNat)
  case atStart => exact ⟨0, by omega, rfl, Lib.hid (fun j _ h => absurd h (Nat.not_lt_zero _))⟩
  case round =>
    obtain ⟨k, hk, rfl, HA⟩ := hrel
    by_cases hk4 : k < 4
    · have hkl : k < ns.length := by omega
      have x0 := HNV.out k hkl
      obtain ⟨n, hn⟩ : ∃ n, ns[k] = n := ⟨_, rfl⟩
      rw [hn] at x0
      by_cases h1 : n < -1
      · have HF := Lib.hid (HK.out v HBV.out).2
        go_wp2
        go_ret
        exact ⟨rfl, HF.out⟩
      · by_cases h2 : 2147483647 < n
        · have HF := Lib.hid (HK.out v HBV.out).2
          go_wp2
          go_ret
          exact ⟨rfl, HF.out⟩
        · have HN : Hid (∀ j (hj : j < ns.length), j < k + 1 → -1 ≤ ns[j] ∧ ns[j] ≤ 2147483647) := Lib.hid (fun j hj hjk => by
            rcases Nat.lt_or_ge j k with h | h
            · exact HA.out j hj h
            · obtain rfl : j = k := by omega
              rw [hn]
              exact ⟨by omega, by omega⟩)
          clear hn
          go_wp2
          go_round
          case rel => exact ⟨k + 1, by omega, by go_num, HN⟩
          case measure => simp [intOf]; omega
    · have hfair := HFAIR.out (fun j hj => HA.out j hj (by omega))
      have HPB := Lib.hid (parse_back hfair t HTX.out)
      have HFV := Lib.hid (HK.out v HBV.out)
      clear hfair
      cases hte : t.toList.isEmpty with
      | true =>
        go_wp2
        go_ret
        exact ⟨rfl, HFV.out.2⟩
      | false =>
        have s0 := ctl_reads (HK.out v.drew HBV.out.drew).1.1
        go_wp2
        have hlt : w.heap.size < v.heap.size := (Array.getElem?_eq_some_iff.1 HFV.out.1.1).1
        have cP := fun x (hx : Below v.heap.size v x) (hin : FieldsIn x.heap.size x (some ⟨v.heap.size, 0, none⟩) [(cacheL, t)]) => parse_any [(cacheL, t)] (some ⟨v.heap.size, 0, none⟩) 1 x hin (few_one (by omega))
        unfold ParsePost at cP
        rw [HPB.out] at cP
        have CP := Lib.hid cP
        have hin : FieldsIn (v.alloc (.cells #[.string cacheL, .string t] 29)).drew.heap.size (v.alloc (.cells #[.string cacheL, .string t] 29)).drew (some ⟨v.heap.size, 0, none⟩) [(cacheL, t)] := by
          have := k_fields v cacheL t
          intro j hj
          obtain ⟨b, off, h1, h2, h3, h4⟩ := this j hj
          exact ⟨b, off, h1, by show b < (v.alloc _).heap.size; simp; omega, h3, h4⟩
        have hbd : Below v.heap.size v (v.alloc (.cells #[.string cacheL, .string t] 29)).drew := ((Below.refl _ v).alloc (Nat.le_refl _) _).drew
        have CPX := Lib.hid (CP.out _ hbd hin)
        have HBD := Lib.hid hbd
        have s1 := ctl_reads (HK.out _ (HBV.out.trans (hbd.mono HBV.out.size))).1.1
        clear cP hin hbd
        unfold ctlV at CPX
        go_region_held3 (fun w' => w'.cell? ⟨w.heap.size, 0, none⟩ = some (.bool c.noStore) ∧ w'.cell? ⟨w.heap.size, 1, none⟩ = some (.bool c.noCache) ∧ w'.cell? ⟨w.heap.size, 2, none⟩ = some (.bool c.priv) ∧ w'.cell? ⟨w.heap.size, 3, none⟩ = some (.bool c.pub) ∧ w'.cell? ⟨w.heap.size, 4, none⟩ = some (.bool c.must) ∧ w'.cell? ⟨w.heap.size, 5, none⟩ = some (.bool c.prox) ∧ w'.cell? ⟨w.heap.size, 6, none⟩ = some (.bool c.only) ∧ w'.cell? ⟨w.heap.size, 7, none⟩ = some (.bool c.anyStale) ∧ w'.cell? ⟨w.heap.size, 8, none⟩ = some (.int .i64 c.maxA) ∧ w'.cell? ⟨w.heap.size, 9, none⟩ = some (.int .i64 c.sMax) ∧ w'.cell? ⟨w.heap.size, 10, none⟩ = some (.int .i64 c.minF) ∧ w'.cell? ⟨w.heap.size, 11, none⟩ = some (.int .i64 c.maxS)) (first | exact s2 | exact s1 | exact s0 | go_keep)
          (first
            | (go_simp
               go_at_call 9
               refine CPX.out.mono ?_
               rintro e w5 ⟨rfl, hb5⟩
               have HB5 := Lib.hid (HBV.out.trans ((HBD.out.trans (hb5.mono HBD.out.size)).mono HBV.out.size))
               have s2 := ctl_reads (HK.out w5 HB5.out).1.1))
        all_goals
          have hfin := (HK.out w5 HB5.out).2
          clear s0 s1 s2
          go_wp2
          go_ret
          exact ⟨rfl, hfin⟩
end Go.Proofs.YtmpgpcpeegdcaaaDoor
namespace Go.Proofs.YtmpgpcpeegdcaaaDoor
open Go.RowKit Go.Deep
open Go.WideShapes Go.ChangeAt

set_option maxRecDepth 100000
theorem aggN_open {H : Type} {enc : TypeId × Value → H} {P : Program} {W : World} {t : TypeId} {fs : Array Field} {v : Value} {d : DataW H} {p : List MemPlace} {r : Reach} {b0 : Nat} (hs : P.underlying t = some (.struct fs)) (hone : oneCellFields P fs = true) (hC : P.cellsOf t = fs.size)
    (hv : Value.okWide P W r b0 t v) (h : DataW.Trod enc P W 0 (fun _ => true) true t v d p) :
    ∃ cs : Array Value, v = .agg cs ∧ cs.size = fs.size ∧ ∃ n, ∀ (j : Nat) (f : Field), fs[j]? = some f → ∃ u y, cs[j]? = some u ∧ DataW.trod enc P W 0 (fun _ => true) true n f.type [u] = some y := by
  obtain ⟨cs, rfl, hsz⟩ := okWide_struct hs hv
  obtain ⟨fuel, hf⟩ := h
  obtain ⟨ys, n', _, _, hl, hyl, hy⟩ := DataW.trod_struct hs hf
  refine ⟨cs, rfl, hsz.trans hC, n', fun j f hj => ?_⟩
  have hjl : j < fs.size := (Array.getElem?_eq_some_iff.1 hj).1
  have hcj : j < cs.size := by omega
  obtain ⟨h1, h2⟩ := hone_of hone j f hj
  have h3 := hy j f hj
  have e : (Value.agg cs).cells.toList = cs.toList := by simp [Value.cells]
  rw [e, h1, h2, List.drop_eq_getElem_cons (by simpa using hcj)] at h3
  refine ⟨cs[j], ys[j]'(by omega), Array.getElem?_eq_getElem _, ?_⟩
  rw [List.getElem?_eq_getElem (by omega)] at h3
  simpa using h3
theorem array12 {cs : Array Value} (h : cs.size = 12) : ∃ v0 v1 v2 v3 v4 v5 v6 v7 v8 v9 v10 v11, cs = #[v0, v1, v2, v3, v4, v5, v6, v7, v8, v9, v10, v11] := by
  obtain ⟨l⟩ := cs
  match l, h with
  | [v0, v1, v2, v3, v4, v5, v6, v7, v8, v9, v10, v11], _ => exact ⟨_, _, _, _, _, _, _, _, _, _, _, _, rfl⟩
section
variable {H : Type} {W : World} {enc : TypeId × Value → H}
theorem i64_wide {x : Int} (h : (Lit.int .i64 x).wf = true) : -9223372036854775808 ≤ x ∧ x ≤ 9223372036854775807 := by
  simp [Lit.wf] at h
  have e1 : IntKind.i64.min = -9223372036854775808 := by decide
  rw [e1] at h
  omega
theorem ctl_open {v : Value} {d : DataW H} {p : List MemPlace} {r : Reach} {b0 : Nat} (hv : Value.okWide Tryd.prog W r b0 23 v) (h : DataW.Trod enc Tryd.prog W 0 (fun _ => true) true 23 v d p) :
    ∃ c : Ctl, v = ctlV c ∧ c.wide := by
  obtain ⟨cs, rfl, hsz, n, hg⟩ := aggN_open Tryd.underlying23 (by kernel_rfl) (by kernel_rfl) hv h
  obtain ⟨v0, v1, v2, v3, v4, v5, v6, v7, v8, v9, v10, v11, rfl⟩ := array12 (hsz.trans rfl)
  obtain ⟨u, y, hu, ht⟩ := hg 0 _ rfl
  obtain rfl : v0 = u := by simpa using hu
  obtain ⟨z0, e0, _⟩ := DataW.trod_bool Tryd.underlying4 ht
  injection e0 with e0
  subst e0
  clear hu ht
  obtain ⟨u, y, hu, ht⟩ := hg 1 _ rfl
  obtain rfl : v1 = u := by simpa using hu
  obtain ⟨z1, e1, _⟩ := DataW.trod_bool Tryd.underlying4 ht
  injection e1 with e1
  subst e1
  clear hu ht
  obtain ⟨u, y, hu, ht⟩ := hg 2 _ rfl
  obtain rfl : v2 = u := by simpa using hu
  obtain ⟨z2, e2, _⟩ := DataW.trod_bool Tryd.underlying4 ht
  injection e2 with e2
  subst e2
  clear hu ht
  obtain ⟨u, y, hu, ht⟩ := hg 3 _ rfl
  obtain rfl : v3 = u := by simpa using hu
  obtain ⟨z3, e3, _⟩ := DataW.trod_bool Tryd.underlying4 ht
  injection e3 with e3
  subst e3
  clear hu ht
  obtain ⟨u, y, hu, ht⟩ := hg 4 _ rfl
  obtain rfl : v4 = u := by simpa using hu
  obtain ⟨z4, e4, _⟩ := DataW.trod_bool Tryd.underlying4 ht
  injection e4 with e4
  subst e4
  clear hu ht
  obtain ⟨u, y, hu, ht⟩ := hg 5 _ rfl
  obtain rfl : v5 = u := by simpa using hu
  obtain ⟨z5, e5, _⟩ := DataW.trod_bool Tryd.underlying4 ht
  injection e5 with e5
  subst e5
  clear hu ht
  obtain ⟨u, y, hu, ht⟩ := hg 6 _ rfl
  obtain rfl : v6 = u := by simpa using hu
  obtain ⟨z6, e6, _⟩ := DataW.trod_bool Tryd.underlying4 ht
  injection e6 with e6
  subst e6
  clear hu ht
  obtain ⟨u, y, hu, ht⟩ := hg 7 _ rfl
  obtain rfl : v7 = u := by simpa using hu
  obtain ⟨z7, e7, _⟩ := DataW.trod_bool Tryd.underlying4 ht
  injection e7 with e7
  subst e7
  clear hu ht
  obtain ⟨u, y, hu, ht⟩ := hg 8 _ rfl
  obtain rfl : v8 = u := by simpa using hu
  obtain ⟨z8, e8, _, w8⟩ := DataW.trod_int Tryd.underlying2 ht
  injection e8 with e8
  subst e8
  clear hu ht
  obtain ⟨u, y, hu, ht⟩ := hg 9 _ rfl
  obtain rfl : v9 = u := by simpa using hu
  obtain ⟨z9, e9, _, w9⟩ := DataW.trod_int Tryd.underlying2 ht
  injection e9 with e9
  subst e9
  clear hu ht
  obtain ⟨u, y, hu, ht⟩ := hg 10 _ rfl
  obtain rfl : v10 = u := by simpa using hu
  obtain ⟨z10, e10, _, w10⟩ := DataW.trod_int Tryd.underlying2 ht
  injection e10 with e10
  subst e10
  clear hu ht
  obtain ⟨u, y, hu, ht⟩ := hg 11 _ rfl
  obtain rfl : v11 = u := by simpa using hu
  obtain ⟨z11, e11, _, w11⟩ := DataW.trod_int Tryd.underlying2 ht
  injection e11 with e11
  subst e11
  clear hu ht
  exact ⟨⟨z0, z1, z2, z3, z4, z5, z6, z7, z8, z9, z10, z11⟩, rfl, i64_wide w8, i64_wide w9, i64_wide w10, i64_wide w11⟩
end
theorem pow10_data : (Rows.laid_internal_strconv_uint64pow10 : DataW Unit) = Lib.tabData .u64 Lib.pow10Tab := by kernel_rfl
theorem tab_of_laid {W : World} {laid : List (String × DataW Unit)} (h : laidMet Tryd.prog laid W) (hm : ("internal/strconv.uint64pow10", (Rows.laid_internal_strconv_uint64pow10 : DataW Unit)) ∈ laid) : TabW W := by
  obtain ⟨ps, hl, _⟩ := h
  obtain ⟨g, t, cs, fuel, p, h1, h2, h3, h4⟩ := laid_mem hl hm
  rw [pow10_data] at h4
  have hg : Tryd.prog.globalNamed "internal/strconv.uint64pow10" = some 0 := by kernel_rfl
  obtain rfl := Option.some.inj (h1.symm.trans hg)
  obtain rfl := Option.some.inj (h2.symm.trans (show (Tryd.prog.globals[0]?).map (·.type) = some 87 by kernel_rfl))
  have hc := Lib.cells_of_tab Tryd.underlying87 Tryd.underlying77 (by kernel_rfl) (by kernel_rfl) h4
  unfold TabW Lib.TabIs
  rw [h3, ← hc]
theorem TabW.pos {w : World} (h : TabW w) : 0 < w.heap.size := by
  unfold TabW Lib.TabIs World.var? at h
  rw [show Tryd.prog.globalNamed "internal/strconv.uint64pow10" = some 0 by kernel_rfl] at h
  simp only [Option.bind_some] at h
  rcases Nat.lt_or_ge 0 w.heap.size with h' | h'
  · exact h'
  · rw [Array.getElem?_eq_none h'] at h; cases h
end Go.Proofs.YtmpgpcpeegdcaaaDoor
