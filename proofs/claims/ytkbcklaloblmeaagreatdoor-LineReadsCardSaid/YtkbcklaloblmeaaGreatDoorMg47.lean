/-
  LineReads' walk.
-/
import Derived.Lib.ConvBytes
import Derived.Test.YtkbcklaloblmeaaGreatDoorMg31
import Derived.Test.YtkbcklaloblmeaaGreatDoorMg46
namespace Go.Proofs.YtkbcklaloblmeaaGreatDoor
open Go.RowKit LineMath ChunkS NormS DateMath

theorem lof_any (s : ByteArray) (w : World) (hsz : s.size ≤ 100000000) : Calls Tryz.prog 12 #[.string s] w (ParseLPost s.data.toList w) := by
  by_cases h30 : s.size < 30 ∨ s.data.toList.getD 29 0 ≠ 32
  · exact lof_bare s w h30
  · have h1 : 30 ≤ s.size := by rcases Nat.lt_or_ge s.size 30 with h | h; · exact absurd (.inl h) h30
                                exact h
    have h2 : s.data.toList.getD 29 0 = 32 := by
      by_cases e : s.data.toList.getD 29 0 = 32
      · exact e
      · exact absurd (.inr e) h30
    by_cases hd : (readF (s.data.toList.take 29)).2 = 0
    · exact lof_good s w (readF (s.data.toList.take 29)).1 h1 h2 (by rw [← hd]) hsz
    · exact lof_date s w h1 h2 hd hsz
theorem u8_byteL {x : Int} (h : (Lit.int .u8 x).wf = true) : ∃ X : UInt8, x = (X.toNat : Int) := by
  have h2 : (0 : Int) ≤ x ∧ x ≤ 255 := by simpa [Lit.wf, IntKind.min, IntKind.max, IntKind.bits, IntKind.signed] using h
  refine ⟨UInt8.ofNat x.toNat, ?_⟩
  rw [UInt8.toNat_ofNat_of_lt' (by show x.toNat < 256; omega)]
  omega
theorem xorL_u8 (x z : UInt8) : ∃ y : UInt8, Go.bits .xor .u8 (x.toNat : Int) (z.toNat : Int) = (y.toNat : Int) :=
  ⟨x ^^^ z, by rw [u8_xor_nat _ _ x.toNat_lt z.toNat_lt, UInt8.toNat_xor]⟩
theorem bytesAtL_set {w : World} {g off i : Nat} {L : List UInt8} (h : BytesAt w (some ⟨g, off, none⟩) L) (hi : i < L.length) (y : UInt8) :
    BytesAt (w.setCell ⟨g, off + i, none⟩ (.int .u8 y.toNat)) (some ⟨g, off, none⟩) (L.set i y) := by
  intro k hk
  have hk' : k < L.length := by simpa using hk
  obtain ⟨b, o, e, hc⟩ := h k hk'
  injection e with e
  injection e with e1 e2 e3
  subst e1; subst e2
  refine ⟨g, off, rfl, ?_⟩
  obtain ⟨b2, o2, e2, hc2⟩ := h i hi
  injection e2 with e2
  injection e2 with e21 e22 e23
  subst e21; subst e22
  by_cases hki : k = i
  · subst hki
    rw [List.getElem_set_self]
    exact World.cell?_setCell_same' w _ _ (by rw [hc2]; rfl)
  · rw [List.getElem_set_ne (by omega)]
    rw [World.cell?_setCell_other w _ _ _ (by intro e; injection e with _ e _; omega)]
    exact hc
theorem conv_strL (w : World) (s : ByteArray) : ∃ c w', (convert 9 30 (.string s)).run Tryz.prog w = .ok (.slice (some ⟨w.heap.size, 0, none⟩) s.size c) w' ∧ BytesAt w' (some ⟨w.heap.size, 0, none⟩) s.data.toList ∧ Spares nowhere w w' ∧ s.size ≤ c ∧ ∀ k, k < s.size → w'.frozen? ⟨w.heap.size, k, none⟩ = false := by
  refine ⟨_, _, Lib.run_convert_string_bytes w 9 30 5 s Tryz.underlying9 Tryz.underlying30 Tryz.underlying5, ?_, ?_, grownCap_ge _ _ _ _, ?_⟩
  · intro k hk
    have hs : k < s.size := by rw [Array.length_toList] at hk; exact hk
    refine ⟨w.heap.size, 0, rfl, ?_⟩
    rw [Nat.zero_add, Lib.bytesWorld_cell w _ s k hs, List.getD_eq_getElem?_getD, List.getElem?_eq_getElem hk]
    rfl
  · refine ⟨?_, ?_, ?_, ?_, fun b hb _ => Lib.bytesWorld_at_old w _ s b hb⟩
    · simp [Lib.bytesWorld, World.freeze, World.alloc, World.drew, -World.alloc_eq, -World.drew_eq]
    · simp [Lib.bytesWorld, World.freeze, World.alloc, World.drew, -World.alloc_eq, -World.drew_eq]
    · simp [Lib.bytesWorld, World.freeze, World.alloc, World.drew, -World.alloc_eq, -World.drew_eq]
    · rw [Lib.bytesWorld_size]; omega
  · intro k hk
    have hz : s.size ≤ (Lib.bytesCells w 5 s).size := by
      have : s.data.size = s.size := rfl
      simp [Lib.bytesCells]
    unfold World.frozen?
    simp only [Lib.bytesWorld_at_new]
    simp only [Bool.and_eq_false_iff, decide_eq_false_iff_not]
    omega
theorem bytesAtL_take {w : World} {a : Option Addr} {L : List UInt8} (k : Nat) (h : BytesAt w a L) : BytesAt w a (L.take k) := by
  intro j hj
  have hj' : j < L.length := by rw [List.length_take] at hj; omega
  obtain ⟨b, o, e, hc⟩ := h j hj'
  exact ⟨b, o, e, by rw [List.getElem_take]; exact hc⟩
/-- A text that lies in the row of the two. -/
def TextAt (q : Nat) (v : World) (k : Nat) : Prop := ∃ t : ByteArray, t.size ≤ 100000000 ∧ ∀ W, Spares nowhere v W → W.cell? ⟨q, k, none⟩ = some (.string t)
set_option maxRecDepth 100000 in
set_option maxHeartbeats 8000000 in
theorem reads_any (l : LineV) (s : ByteArray) (at_ : Int) (xb : UInt8) (cut : Bool) (w : World) (hT : Tabs4 w) (hw : WideL l) :
    Calls Tryz.prog 4 #[.agg (cellsV l).toArray, .string s, .int .i64 at_, .int .u8 xb.toNat, .bool cut] w (Knows w) := by
  obtain ⟨w1, hw1⟩ : ∃ w1, w.alloc (.cells #[.int .i64 l.time, .int .i64 l.how, .string ⟨l.method.toArray⟩, .string ⟨l.host.toArray⟩, .string ⟨l.target.toArray⟩, .int .i64 l.status, .int .i64 l.size] 23) = w1 := ⟨_, rfl⟩
  have hs1 : Spares nowhere w w1 := by rw [← hw1]; exact (Spares.refl _ _).alloc _
  have hb : w1.heap[w.heap.size]? = some (.cells #[.int .i64 l.time, .int .i64 l.how, .string ⟨l.method.toArray⟩, .string ⟨l.host.toArray⟩, .string ⟨l.target.toArray⟩, .int .i64 l.status, .int .i64 l.size] 23 (0, 0)) := by rw [← hw1]; exact heap_alloc_new w _
  have HK := Lib.hid (known_any w1 (hT.spares hs1))
  have HT := Lib.hid hT
  have HS1 := Lib.hid hs1
  have HW1 := Lib.hid hw1
  have HWD := Lib.hid hw
  have cells : ∀ x, Spares nowhere w1 x → ((x.cell? ⟨w.heap.size, 0, none⟩ = some (.int .i64 l.time) ∧ x.cell? ⟨w.heap.size, 1, none⟩ = some (.int .i64 l.how)) ∧ (x.cell? ⟨w.heap.size, 2, none⟩ = some (.string ⟨l.method.toArray⟩) ∧ x.cell? ⟨w.heap.size, 3, none⟩ = some (.string ⟨l.host.toArray⟩)) ∧ x.cell? ⟨w.heap.size, 4, none⟩ = some (.string ⟨l.target.toArray⟩) ∧ x.cell? ⟨w.heap.size, 5, none⟩ = some (.int .i64 l.status) ∧ x.cell? ⟨w.heap.size, 6, none⟩ = some (.int .i64 l.size)) := fun x hx => by
    have h := hx.heap hb (fun h => h)
    exact ⟨⟨by rw [Lib.cell_of_heap h]; rfl, by rw [Lib.cell_of_heap h]; rfl⟩, ⟨by rw [Lib.cell_of_heap h]; rfl, by rw [Lib.cell_of_heap h]; rfl⟩, by rw [Lib.cell_of_heap h]; rfl, by rw [Lib.cell_of_heap h]; rfl, by rw [Lib.cell_of_heap h]; rfl⟩
  have HC := Lib.hid cells
  have cLi := fun x => light_any l x
  clear cells hb hs1 hw1 hT hw
  unfold Knows at HK ⊢
  unfold cellsV at cLi ⊢
  cases hli : lightB l with
  | false =>
    rw [hli] at cLi
    go_enter Tryz.func4, Tryz.ntmps4
    go_wp2_with fail
    rw [HW1.out]
    refine HK.out.mono ?_
    rintro e w2 ⟨rfl, hs2⟩
    obtain ⟨⟨c0, c1⟩, ⟨c2, c3⟩, c4, c5, c6⟩ := HC.out w2 hs2
    have HS2 := Lib.hid hs2
    clear hs2
    go_wp2_with fail
    refine (cLi _).mono ?_
    rintro e w3 ⟨rfl, hb3⟩
    have HS3 : Hid (Spares nowhere w w3) := Lib.hid ((HS1.out.trans HS2.out).trans (Below.spares hb3 (fun _ hk => .inr hk)))
    clear hb3
    go_wp2
    go_ret
    exact ⟨rfl, HS3.out⟩
  | true =>
    rw [hli] at cLi
    have HLL := Lib.hid (HWD.out.light hli)
    have cR := fun x => lRefText_any l x HLL.out
    have hlen := lineT_le HLL.out
    have hlow : 30 ≤ (lineT l).length := by unfold lineT; simp only [List.length_append, List.length_cons, time_len]; omega
    unfold LTextPost cellsV at cR
    obtain ⟨LT, hLT⟩ : ∃ LT, lineT l = LT := ⟨_, rfl⟩
    rw [hLT] at hlen hlow
    simp only [hLT] at cR
    have HLEN := Lib.hid hlen
    have HLOW := Lib.hid hlow
    clear hli hLT hlen hlow
    go_enter Tryz.func4, Tryz.ntmps4
    go_wp2_with fail
    rw [HW1.out]
    refine HK.out.mono ?_
    rintro e w2 ⟨rfl, hs2⟩
    obtain ⟨⟨c0, c1⟩, ⟨c2, c3⟩, c4, c5, c6⟩ := HC.out w2 hs2
    have HS2 := Lib.hid hs2
    clear hs2
    go_wp2_with fail
    refine (cLi _).mono ?_
    rintro e w3 ⟨rfl, hb3⟩
    have HS3 : Hid (Spares nowhere w1 w3) := Lib.hid (HS2.out.trans (Below.spares hb3 (fun _ hk => .inr hk)))
    clear hb3 c0 c1 c2 c3 c4 c5 c6 cLi
    obtain ⟨⟨c0, c1⟩, ⟨c2, c3⟩, c4, c5, c6⟩ := HC.out w3 HS3.out
    by_cases hbig : 500 < s.size
    · have i1 : (500 : Int) < (s.size : Int) := by omega
      go_wp2
      go_ret
      exact ⟨rfl, HS1.out.trans HS3.out⟩
    have i1 : ¬ (500 : Int) < (s.size : Int) := by omega
    go_wp2_with fail
    refine (cR _).mono ?_
    rintro e w4 ⟨rfl, hb4⟩
    have HS4 : Hid (Spares nowhere w w4) := Lib.hid ((HS1.out.trans HS3.out).trans (Below.spares hb4 (fun _ hk => .inr hk)))
    clear hb4 c0 c1 c2 c3 c4 c5 c6 cR
    obtain ⟨B, hB⟩ : ∃ B, arrS LT = B := ⟨_, rfl⟩
    have hBl : B.data.toList = LT := by rw [← hB, arrS_list]
    have hBs : B.size = LT.length := by rw [← hB, arrS_size]
    rw [hB]
    obtain ⟨c5, v5, hcv, hat5, hs5, hcap, hfr⟩ := conv_strL w4 B
    obtain ⟨g, hg⟩ : ∃ g, w4.heap.size = g := ⟨_, rfl⟩
    obtain ⟨n, hn⟩ : ∃ n, B.size = n := ⟨_, rfl⟩
    rw [hg, hn] at hcv
    rw [hg] at hat5
    rw [hBl] at hat5
    rw [hg, hn] at hfr
    rw [hn] at hcap
    have hgw : w.heap.size ≤ g := by have := HS4.out.size; omega
    have hn30 : 30 ≤ n := by have := HLOW.out; omega
    have hnmax : n ≤ 13000000 := by have := HLEN.out; omega
    have HNL : Hid (LT.length = n) := Lib.hid (by omega)
    have HS5 : Hid (Spares nowhere w v5) := Lib.hid (HS4.out.trans hs5)
    have HAT := Lib.hid hat5
    have HFR := Lib.hid hfr
    have hcvg : (convert 9 30 (.string B)).run Tryz.prog w4 = .ok (.slice (some ⟨g, 0, none⟩) n c5) v5 := hcv
    clear hB hBl hBs hat5 hs5 hfr hcv hg hn
    go_upto_region 6 with (fail)
    obtain ⟨K, hK⟩ : ∃ K, (at_.tmod (n : Int)).natAbs = K := ⟨_, rfl⟩
    have hKn : K < n := by
      rw [← hK, Int.natAbs_tmod]
      exact Nat.mod_lt _ (by simp; omega)
    obtain ⟨r, hr⟩ : ∃ r, at_.tmod (n : Int) = r := ⟨_, rfl⟩
    rw [hr] at hK
    have hn0 : ¬ n = 0 := by omega
    have HR := Lib.hid hr
    clear hcvg
    go_upto_if 37 with (fail)
    go_cut [12] from 19 (fun s12 wx => s12 = .int .i64 (K : Int) ∧ wx = v5)
    case first =>
      by_cases hneg : r < 0
      · have hrk : -r = (K : Int) := by omega
        have hrl : -9223372036854775808 < r := by omega
        go_wp2
        go_meet
        exact ⟨by first | rfl | (rw [← hrk]), rfl⟩
      · have hrk : r = (K : Int) := by omega
        go_wp2
        go_meet
        exact ⟨by first | rfl | (rw [hrk]), rfl⟩
    case rest =>
      obtain ⟨rfl, rfl⟩ := hcut
      clear hK HR
      obtain ⟨x, hx⟩ : ∃ x, LT[K]'(by rw [HNL.out]; exact hKn) = x := ⟨_, rfl⟩
      obtain ⟨y, hy⟩ := xorL_u8 x xb
      have hcx : wc.cell? ⟨g, K, none⟩ = some (.int .u8 x.toNat) := by
        obtain ⟨b', o', e, hc⟩ := HAT.out K (by rw [HNL.out]; exact hKn)
        injection e with e; injection e with e1 e2 e3
        subst e1; subst e2
        rw [hx, Nat.zero_add] at hc
        exact hc
      have hzx : wc.frozen? ⟨g, K, none⟩ = false := HFR.out K hKn
      obtain ⟨v6, hv6⟩ : ∃ v6, wc.setCell ⟨g, K, none⟩ (.int .u8 (y.toNat : Int)) = v6 := ⟨_, rfl⟩
      have hs6 : Spares (fun b => b = g) wc v6 := by rw [← hv6]; exact Spares.setCell (F := fun b => b = g) (Spares.refl _ wc) (p := ⟨g, K, none⟩) (.inl rfl) _
      obtain ⟨T, hTT⟩ : ∃ T, LT.set K y = T := ⟨_, rfl⟩
      have HB6 : Hid (BytesAt v6 (some ⟨g, 0, none⟩) T) := Lib.hid (by
        have := bytesAtL_set HAT.out (i := K) (by rw [HNL.out]; exact hKn) y
        rw [Nat.zero_add, hv6, hTT] at this
        exact this)
      have HTL : Hid (T.length = n) := Lib.hid (by rw [← hTT, List.length_set]; exact HNL.out)
      have HS6 : Hid (Spares nowhere w v6) := Lib.hid (HS5.out.trans' hs6 (fun b hb => .inr (by omega)))
      have HV6 := Lib.hid hv6
      have hkn2 : (K : Int) < (n : Int) := by omega
      have hx256 := x.toNat_lt
      have hxb := xb.toNat_lt
      clear hs6 hv6 hTT hx
      go_upto_region 10 with (fail)
      change Code.wp _ _ _ _ (wc.setCell ⟨g, K, none⟩ (.int .u8 (y.toNat : Int)))
      rw [HV6.out]
      clear hcx hzx hy hx256 hxb
      go_upto_if 47 with (fail)
      go_cut [11] from 19 (fun s11 wx => ∃ m : Nat, m ≤ n ∧ s11 = .slice (some ⟨g, 0, none⟩) m c5 ∧ wx = v6)
      case first =>
        cases cut with
        | false =>
          go_wp2
          go_meet
          exact ⟨n, Nat.le_refl _, rfl, rfl⟩
        | true =>
          have hk1 : (K : Int) ≤ (c5 : Int) := by omega
          have hk2 : K ≤ c5 := by omega
          go_wp2
          go_meet
          exact ⟨K, by omega, rfl, rfl⟩
      case rest =>
        obtain ⟨m, hm, rfl, rfl⟩ := hcut
        obtain ⟨L2, hL2⟩ : ∃ L2, T.take m = L2 := ⟨_, rfl⟩
        have hl2 : m = L2.length := by rw [← hL2, List.length_take, HTL.out]; omega
        have hb2 : BytesAt wc (some ⟨g, 0, none⟩) L2 := by rw [← hL2]; exact bytesAtL_take m HB6.out
        have hcs := conv_bytes hb2 c5
        rw [← hl2] at hcs
        obtain ⟨S2, hS2⟩ : ∃ S2 : ByteArray, (⟨L2.toArray⟩ : ByteArray) = S2 := ⟨_, rfl⟩
        rw [hS2] at hcs
        have hs2z : S2.size ≤ 100000000 := by
          rw [← hS2]
          show L2.toArray.size ≤ _
          simp only [List.size_toArray]
          omega
        obtain ⟨q, hq⟩ : ∃ q, wc.heap.size = q := ⟨_, rfl⟩
        obtain ⟨v7, hv7⟩ : ∃ v7, wc.alloc (.cells #[.string s, .string S2] 9) = v7 := ⟨_, rfl⟩
        have hs7 : Spares nowhere wc v7 := by rw [← hv7]; exact (Spares.refl _ wc).alloc _
        have hg7 : v7.heap[q]? = some (.cells #[.string s, .string S2] 9 (0, 0)) := by rw [← hv7, ← hq]; exact heap_alloc_new wc _
        have HROW : Hid (∀ k, k < 2 → TextAt q v7 k) := Lib.hid (fun k hk => by
          obtain rfl | rfl : k = 0 ∨ k = 1 := by omega
          · exact ⟨s, by omega, fun W hW => by rw [Lib.cell_of_heap (hW.heap hg7 (fun h => h))]; rfl⟩
          · exact ⟨S2, hs2z, fun W hW => by rw [Lib.cell_of_heap (hW.heap hg7 (fun h => h))]; rfl⟩)
        have HS7 := Lib.hid (HS6.out.trans hs7)
        have HV7 := Lib.hid hv7
        clear hs7 hg7 hv7 hl2 hb2 hS2 hs2z hL2
        go_wp2
        try rw [hq]
        clear hq
        go_loopw [56] (fun i wr => ∃ k : Nat, k ≤ 2 ∧ i = .int .i64 k ∧ Hid (Spares nowhere v7 wr)) (fun i _ => 2 - (intOf i).toNat)
        case atStart => exact ⟨0, by omega, rfl, Lib.hid (by rw [HV7.out]; exact Spares.refl _ _)⟩
        case round =>
          obtain ⟨k, hk, rfl, HW⟩ := hrel
          by_cases hlt : k < 2
          · obtain ⟨tx, htz, hrow⟩ := HROW.out k hlt
            have hcell := hrow wr HW.out
            have i4 : (k : Int) < 2 := by omega
            have HSW := Lib.hid (HS7.out.trans HW.out)
            have cP := lparse_any tx wr (HT.out.spares HSW.out).1.1 (HT.out.spares HSW.out).1.2 (HT.out.spares HSW.out).2.2 htz
            have cQ := fun z => lof_any tx z htz
            unfold ParseLPost at cP cQ
            clear hrow htz
            cases hlf : lineF tx.data.toList with
            | none =>
              rw [hlf] at cP
              simp only [hlf] at cQ
              unfold lineR cellsV zeroL at cP cQ
              simp only at cP cQ
              clear hlf
              go_wp2_with fail
              refine cP.mono ?_
              rintro e w6 ⟨rfl, hb6⟩
              obtain ⟨p8, hp8⟩ : ∃ p8, w6.heap.size = p8 := ⟨_, rfl⟩
              obtain ⟨w7, hw7⟩ : ∃ w7, w6.alloc (.cells #[.int .i64 0, .int .i64 0, .string ⟨#[]⟩, .string ⟨#[]⟩, .string ⟨#[]⟩, .int .i64 0, .int .i64 0] 23) = w7 := ⟨_, rfl⟩
              have hs67 : Spares nowhere w6 w7 := by rw [← hw7]; exact (Spares.refl _ _).alloc _
              have hd7 : w7.heap[p8]? = some (.cells #[.int .i64 0, .int .i64 0, .string ⟨#[]⟩, .string ⟨#[]⟩, .string ⟨#[]⟩, .int .i64 0, .int .i64 0] 23 (0, 0)) := by rw [← hw7, ← hp8]; exact heap_alloc_new w6 _
              have hsw7 : Spares nowhere wr w7 := (Below.spares (F := nowhere) hb6 (fun _ hk => .inr hk)).trans hs67
              have HSW7 := Lib.hid hsw7
              have HD7 := Lib.hid hd7
              have HW7 := Lib.hid hw7
              clear hb6 hw7 hs67 hd7 hsw7 cP
              go_wp2_with fail
              change Calls _ _ _ (w6.alloc (.cells #[.int .i64 0, .int .i64 0, .string ⟨#[]⟩, .string ⟨#[]⟩, .string ⟨#[]⟩, .int .i64 0, .int .i64 0] 23)) _
              rw [HW7.out]
              refine (cQ w7).mono ?_
              rintro e w8 ⟨rfl, hb8⟩
              have hs8 : Spares nowhere w7 w8 := Below.spares hb8 (fun _ hk => .inr hk)
              have hd8 := hs8.heap HD7.out (fun h => h)
              have hd : (w8.alloc (.cells #[.int .i64 0, .int .i64 0, .string ⟨#[]⟩, .string ⟨#[]⟩, .string ⟨#[]⟩, .int .i64 0, .int .i64 0] 23)).heap[p8]? = some (.cells #[.int .i64 0, .int .i64 0, .string ⟨#[]⟩, .string ⟨#[]⟩, .string ⟨#[]⟩, .int .i64 0, .int .i64 0] 23 (0, 0)) := ((Spares.refl nowhere w8).alloc _).heap hd8 (fun h => h)
              have d0 : (w8.alloc (.cells #[.int .i64 0, .int .i64 0, .string ⟨#[]⟩, .string ⟨#[]⟩, .string ⟨#[]⟩, .int .i64 0, .int .i64 0] 23)).cell? ⟨p8, 0, none⟩ = some (.int .i64 0) := by rw [Lib.cell_of_heap hd]; rfl
              have d1 : (w8.alloc (.cells #[.int .i64 0, .int .i64 0, .string ⟨#[]⟩, .string ⟨#[]⟩, .string ⟨#[]⟩, .int .i64 0, .int .i64 0] 23)).cell? ⟨p8, 1, none⟩ = some (.int .i64 0) := by rw [Lib.cell_of_heap hd]; rfl
              have d2 : (w8.alloc (.cells #[.int .i64 0, .int .i64 0, .string ⟨#[]⟩, .string ⟨#[]⟩, .string ⟨#[]⟩, .int .i64 0, .int .i64 0] 23)).cell? ⟨p8, 2, none⟩ = some (.string ⟨#[]⟩) := by rw [Lib.cell_of_heap hd]; rfl
              have d3 : (w8.alloc (.cells #[.int .i64 0, .int .i64 0, .string ⟨#[]⟩, .string ⟨#[]⟩, .string ⟨#[]⟩, .int .i64 0, .int .i64 0] 23)).cell? ⟨p8, 3, none⟩ = some (.string ⟨#[]⟩) := by rw [Lib.cell_of_heap hd]; rfl
              have d4 : (w8.alloc (.cells #[.int .i64 0, .int .i64 0, .string ⟨#[]⟩, .string ⟨#[]⟩, .string ⟨#[]⟩, .int .i64 0, .int .i64 0] 23)).cell? ⟨p8, 4, none⟩ = some (.string ⟨#[]⟩) := by rw [Lib.cell_of_heap hd]; rfl
              have d5 : (w8.alloc (.cells #[.int .i64 0, .int .i64 0, .string ⟨#[]⟩, .string ⟨#[]⟩, .string ⟨#[]⟩, .int .i64 0, .int .i64 0] 23)).cell? ⟨p8, 5, none⟩ = some (.int .i64 0) := by rw [Lib.cell_of_heap hd]; rfl
              have d6 : (w8.alloc (.cells #[.int .i64 0, .int .i64 0, .string ⟨#[]⟩, .string ⟨#[]⟩, .string ⟨#[]⟩, .int .i64 0, .int .i64 0] 23)).cell? ⟨p8, 6, none⟩ = some (.int .i64 0) := by rw [Lib.cell_of_heap hd]; rfl
              have HSE : Hid (Spares nowhere wr (w8.alloc (.cells #[.int .i64 0, .int .i64 0, .string ⟨#[]⟩, .string ⟨#[]⟩, .string ⟨#[]⟩, .int .i64 0, .int .i64 0] 23))) := Lib.hid ((HSW7.out.trans hs8).alloc _)
              clear hb8 hs8 hd8 hd cQ
              go_wp2
              go_roundw
              case rel => exact ⟨k + 1, by omega, by go_num, Lib.hid (HW.out.trans HSE.out)⟩
              case measure => simp [intOf]; omega
            | some v =>
              rw [hlf] at cP
              simp only [hlf] at cQ
              unfold lineR cellsV at cP cQ
              simp only at cP cQ
              clear hlf
              go_wp2_with fail
              refine cP.mono ?_
              rintro e w6 ⟨rfl, hb6⟩
              obtain ⟨p8, hp8⟩ : ∃ p8, w6.heap.size = p8 := ⟨_, rfl⟩
              obtain ⟨w7, hw7⟩ : ∃ w7, w6.alloc (.cells #[.int .i64 v.time, .int .i64 v.how, .string ⟨v.method.toArray⟩, .string ⟨v.host.toArray⟩, .string ⟨v.target.toArray⟩, .int .i64 v.status, .int .i64 v.size] 23) = w7 := ⟨_, rfl⟩
              have hs67 : Spares nowhere w6 w7 := by rw [← hw7]; exact (Spares.refl _ _).alloc _
              have hd7 : w7.heap[p8]? = some (.cells #[.int .i64 v.time, .int .i64 v.how, .string ⟨v.method.toArray⟩, .string ⟨v.host.toArray⟩, .string ⟨v.target.toArray⟩, .int .i64 v.status, .int .i64 v.size] 23 (0, 0)) := by rw [← hw7, ← hp8]; exact heap_alloc_new w6 _
              have hsw7 : Spares nowhere wr w7 := (Below.spares (F := nowhere) hb6 (fun _ hk => .inr hk)).trans hs67
              have HSW7 := Lib.hid hsw7
              have HD7 := Lib.hid hd7
              have HW7 := Lib.hid hw7
              clear hb6 hw7 hs67 hd7 hsw7 cP
              go_wp2_with fail
              change Calls _ _ _ (w6.alloc (.cells #[.int .i64 v.time, .int .i64 v.how, .string ⟨v.method.toArray⟩, .string ⟨v.host.toArray⟩, .string ⟨v.target.toArray⟩, .int .i64 v.status, .int .i64 v.size] 23)) _
              rw [HW7.out]
              refine (cQ w7).mono ?_
              rintro e w8 ⟨rfl, hb8⟩
              have hs8 : Spares nowhere w7 w8 := Below.spares hb8 (fun _ hk => .inr hk)
              have hd8 := hs8.heap HD7.out (fun h => h)
              have hd : (w8.alloc (.cells #[.int .i64 v.time, .int .i64 v.how, .string ⟨v.method.toArray⟩, .string ⟨v.host.toArray⟩, .string ⟨v.target.toArray⟩, .int .i64 v.status, .int .i64 v.size] 23)).heap[p8]? = some (.cells #[.int .i64 v.time, .int .i64 v.how, .string ⟨v.method.toArray⟩, .string ⟨v.host.toArray⟩, .string ⟨v.target.toArray⟩, .int .i64 v.status, .int .i64 v.size] 23 (0, 0)) := ((Spares.refl nowhere w8).alloc _).heap hd8 (fun h => h)
              have d0 : (w8.alloc (.cells #[.int .i64 v.time, .int .i64 v.how, .string ⟨v.method.toArray⟩, .string ⟨v.host.toArray⟩, .string ⟨v.target.toArray⟩, .int .i64 v.status, .int .i64 v.size] 23)).cell? ⟨p8, 0, none⟩ = some (.int .i64 v.time) := by rw [Lib.cell_of_heap hd]; rfl
              have d1 : (w8.alloc (.cells #[.int .i64 v.time, .int .i64 v.how, .string ⟨v.method.toArray⟩, .string ⟨v.host.toArray⟩, .string ⟨v.target.toArray⟩, .int .i64 v.status, .int .i64 v.size] 23)).cell? ⟨p8, 1, none⟩ = some (.int .i64 v.how) := by rw [Lib.cell_of_heap hd]; rfl
              have d2 : (w8.alloc (.cells #[.int .i64 v.time, .int .i64 v.how, .string ⟨v.method.toArray⟩, .string ⟨v.host.toArray⟩, .string ⟨v.target.toArray⟩, .int .i64 v.status, .int .i64 v.size] 23)).cell? ⟨p8, 2, none⟩ = some (.string ⟨v.method.toArray⟩) := by rw [Lib.cell_of_heap hd]; rfl
              have d3 : (w8.alloc (.cells #[.int .i64 v.time, .int .i64 v.how, .string ⟨v.method.toArray⟩, .string ⟨v.host.toArray⟩, .string ⟨v.target.toArray⟩, .int .i64 v.status, .int .i64 v.size] 23)).cell? ⟨p8, 3, none⟩ = some (.string ⟨v.host.toArray⟩) := by rw [Lib.cell_of_heap hd]; rfl
              have d4 : (w8.alloc (.cells #[.int .i64 v.time, .int .i64 v.how, .string ⟨v.method.toArray⟩, .string ⟨v.host.toArray⟩, .string ⟨v.target.toArray⟩, .int .i64 v.status, .int .i64 v.size] 23)).cell? ⟨p8, 4, none⟩ = some (.string ⟨v.target.toArray⟩) := by rw [Lib.cell_of_heap hd]; rfl
              have d5 : (w8.alloc (.cells #[.int .i64 v.time, .int .i64 v.how, .string ⟨v.method.toArray⟩, .string ⟨v.host.toArray⟩, .string ⟨v.target.toArray⟩, .int .i64 v.status, .int .i64 v.size] 23)).cell? ⟨p8, 5, none⟩ = some (.int .i64 v.status) := by rw [Lib.cell_of_heap hd]; rfl
              have d6 : (w8.alloc (.cells #[.int .i64 v.time, .int .i64 v.how, .string ⟨v.method.toArray⟩, .string ⟨v.host.toArray⟩, .string ⟨v.target.toArray⟩, .int .i64 v.status, .int .i64 v.size] 23)).cell? ⟨p8, 6, none⟩ = some (.int .i64 v.size) := by rw [Lib.cell_of_heap hd]; rfl
              have HSE : Hid (Spares nowhere wr (w8.alloc (.cells #[.int .i64 v.time, .int .i64 v.how, .string ⟨v.method.toArray⟩, .string ⟨v.host.toArray⟩, .string ⟨v.target.toArray⟩, .int .i64 v.status, .int .i64 v.size] 23))) := Lib.hid ((HSW7.out.trans hs8).alloc _)
              clear hb8 hs8 hd8 hd cQ
              go_wp2
              go_roundw
              case rel => exact ⟨k + 1, by omega, by go_num, Lib.hid (HW.out.trans HSE.out)⟩
              case measure => simp [intOf]; omega
          · obtain rfl : k = 2 := by omega
            go_wp2
            go_ret
            exact ⟨rfl, HS7.out.trans HW.out⟩
end Go.Proofs.YtkbcklaloblmeaaGreatDoor
