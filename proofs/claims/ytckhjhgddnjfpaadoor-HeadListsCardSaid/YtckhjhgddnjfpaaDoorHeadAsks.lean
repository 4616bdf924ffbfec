/-
  HeadAsks.
-/
import Derived.Test.YtckhjhgddnjfpaaDoorHeadRefList
namespace Go.Proofs.YtckhjhgddnjfpaaDoor
open Go.RowKit HeadMath

def GetR (l : Fs) (x : ByteArray) : ByteArray × Bool := match getF x l with
  | none => (⟨#[]⟩, false)
  | some v => (v, true)
def GetS (w : World) (r : ByteArray × Bool) (e : Ending) (w' : World) : Prop := e = .returned (.tuple #[.string r.1, .bool r.2]) ∧ Below w.heap.size w w'
theorem GetPost.told {x : ByteArray} {l : Fs} {w w' : World} {e : Ending} (h : GetPost x l w e w') : GetS w (GetR l x) e w' := by
  obtain ⟨hb, ⟨h1, rfl⟩ | ⟨v, h1, rfl⟩⟩ := h
  · unfold GetR; rw [h1]; exact ⟨rfl, hb⟩
  · unfold GetR; rw [h1]; exact ⟨rfl, hb⟩
theorem rows_same (r : List ByteArray) (a b : Option Addr) (ca cb n : Nat) (w : World) (hn : r.length = n) (hx : StrsIn w.heap.size w a r) (hy : StrsIn w.heap.size w b r) (hl : r.length ≤ 140737488351232) :
    Calls Tryd.prog 26 #[.slice a n ca, .slice b n cb] w (DrewPost w (.bool true)) := by
  subst hn
  have := strings_any r r a b ca cb w hx hy hl hl
  rwa [(rowsEq_iff r r).2 rfl] at this
theorem fields_n (r : Fs) (a b : Option Addr) (ca cb n : Nat) (w : World) (hn : r.length = n) (hx : FieldsIn w.heap.size w a r) (hy : FieldsIn w.heap.size w b r) (hl : r.length ≤ 140737488355328) :
    Calls Tryd.prog 15 #[.slice a n ca, .slice b n cb] w (Drew w (.bool true)) := by
  subst hn
  exact fields_same r a b ca cb w hx hy hl
theorem flat_len (A : List ByteArray) (h : ∀ v ∈ A, v.size ≤ 1000000) : (A.flatMap partsF).length ≤ A.length * 1000001 := by
  induction A with
  | nil => simp
  | cons v A ih =>
    have h1 := h v (List.mem_cons_self ..)
    have h2 := ih (fun u hu => h u (List.mem_cons_of_mem _ hu))
    have h3 : ∀ (m : Nat) (v : ByteArray), v.size ≤ m → (partsF v).length ≤ m := by
      intro m
      induction m with
      | zero => intro v hv; rw [partsF_nil (by omega)]; simp
      | succ m ihm =>
        intro v hv
        by_cases h0 : v.size = 0
        · rw [partsF_nil h0]; simp
        · have h4 := ihm (restOf v) (by rw [restOf_size]; omega)
          by_cases hp : (pieceOf v).size = 0
          · rw [partsF_skip h0 hp]; omega
          · rw [partsF_take h0 hp, List.length_cons]; omega
    have h5 := h3 1000000 v h1
    rw [List.flatMap_cons, List.length_append, List.length_cons]
    omega
theorem listF_len {x : ByteArray} {l : Fs} (hl : l.length ≤ 100000) (hvs : ∀ j (h : j < l.length), l[j].2.size ≤ 1000000) : (listF x l).length ≤ 100000100000 := by
  have h1 := flat_len (allF x l) (allF_size hvs)
  have h2 := allF_len x l
  unfold listF
  have h3 := Nat.mul_le_mul_right 1000001 (Nat.le_trans h2 hl)
  omega

set_option maxRecDepth 100000 in
set_option maxHeartbeats 8000000 in
theorem asks_any (l : Fs) (x y : ByteArray) (a : Option Addr) (cap n : Nat) (w : World) (hin : FieldsIn w.heap.size w a l) (hN : n = l.length) (hle : l.length ≤ maxLen) (hsz : ∀ j (h : j < l.length), (l[j]).1.size ≤ maxLen ∧ (l[j]).2.size ≤ maxLen) (hx : x.size ≤ 140737488351232) :
    Calls Tryd.prog 5 #[.slice a n cap, .string x, .string y] w (SetsPost w) := by
  unfold maxLen at hle hsz
  have HIN := Lib.hid hin
  have HN := Lib.hid hN
  have HSZ := Lib.hid hsz
  have hn63 : n < 9223372036854775808 := by omega
  clear hin hN hsz hle
  go_enter Tryd.func5, Tryd.ntmps5
  go_wp2_with fail
  refine (known_any _).mono ?_
  rintro e w1 ⟨rfl, hb1⟩
  have HIN1 := Lib.hid (HIN.out.below hb1 hb1.size)
  have HB1 := Lib.hid hb1
  clear hb1
  go_wp2_with fail
  refine (light_any l a cap n 20 w1 HIN1.out HN.out hn63 (by omega) HSZ.out).mono ?_
  rintro e w2 ⟨lit, rfl, rfl, hlit⟩
  cases lit with
  | false =>
    clear hlit
    go_wp2
    go_ret
    exact ⟨rfl, HB1.out⟩
  | true =>
  by_cases hx1 : (100 : Int) < x.size
  · clear hlit
    go_wp2
    go_ret
    exact ⟨rfl, HB1.out⟩
  by_cases hy1 : (300 : Int) < y.size
  · clear hlit
    have hx2 : ¬ (100 : Int) < x.size := hx1
    go_wp2
    go_ret
    exact ⟨rfl, HB1.out⟩
  obtain ⟨h20, hl⟩ := hlit rfl
  have hl300 : ∀ f ∈ l, f.1.size ≤ 300 ∧ f.2.size ≤ 300 := fun f hf => by
    obtain ⟨j, hj, rfl⟩ := List.getElem_of_mem hf
    exact hl j hj
  have HLS := Lib.hid (smallF_of (by omega) hl300)
  have HVS := Lib.hid (show ∀ j (h : j < l.length), l[j].2.size ≤ 1000000 from fun j h => by have := hl j h; omega)
  have HWS := Lib.hid (show ∀ j (h : j < l.length), l[j].1.size ≤ 1000000 ∧ l[j].2.size ≤ 1000000 from fun j h => by have := hl j h; omega)
  have H20 := Lib.hid h20
  obtain ⟨⟨gv, gb⟩, hg⟩ : ∃ g, GetR l x = g := ⟨_, rfl⟩
  obtain ⟨A, hA⟩ : ∃ A, allF x l = A := ⟨_, rfl⟩
  obtain ⟨nA, hnA⟩ : ∃ m, A.length = m := ⟨_, rfl⟩
  obtain ⟨L, hL⟩ : ∃ A, listF x l = A := ⟨_, rfl⟩
  obtain ⟨nL, hnL⟩ : ∃ m, L.length = m := ⟨_, rfl⟩
  obtain ⟨D, hD⟩ : ∃ A, dropF [x] l = A := ⟨_, rfl⟩
  obtain ⟨nD, hnD⟩ : ∃ m, D.length = m := ⟨_, rfl⟩
  obtain ⟨S, hS⟩ : ∃ A, setF x y l = A := ⟨_, rfl⟩
  obtain ⟨nS, hnS⟩ : ∃ m, S.length = m := ⟨_, rfl⟩
  obtain ⟨T, hT⟩ : ∃ T, (⟨(linesF l).toArray⟩ : ByteArray) = T := ⟨_, rfl⟩
  have hA20 : A.length ≤ 1000 := by rw [← hA]; have := allF_len x l; omega
  have hL20 : L.length ≤ 100000100000 := by rw [← hL]; exact listF_len (by omega) HVS.out
  have hD20 : D.length ≤ 1000 := by rw [← hD]; have := dropF_len [x] l; omega
  have hS20 : S.length ≤ 1000 := by rw [← hS]; have := dropF_len [x] l; unfold setF; simp; omega
  have HGE := Lib.hid hg
  have HAE := Lib.hid hA
  have HNA := Lib.hid hnA
  have HLE := Lib.hid hL
  have HNL := Lib.hid hnL
  have HDE := Lib.hid hD
  have HND := Lib.hid hnD
  have HSE := Lib.hid hS
  have HNS := Lib.hid hnS
  have HTE := Lib.hid hT
  have HA20 := Lib.hid hA20
  have HL20 := Lib.hid hL20
  have HD20 := Lib.hid hD20
  have HS20 := Lib.hid hS20
  have q1 : (gv.toList == gv.toList) = true := by simp
  have q2 : (gb == gb) = true := by simp
  have q3 : (T.toList == T.toList) = true := by simp
  clear hlit hl hl300 h20 hg hA hnA hL hnL hD hnD hS hnS hT hA20 hL20 hD20 hS20
  have HQ := Lib.hid hx1
  -- every call, one by one
  have HG1 := Lib.hid (show ∀ wz, FieldsIn wz.heap.size wz a l → Calls Tryd.prog 24 #[.slice a n cap, .string x] wz (GetS wz (gv, gb)) from fun wz h => by
    rw [← HGE.out, HN.out]; exact (get_any l x a cap wz h HLS.out (by have := H20.out; omega) hx).mono fun _ _ h => h.told)
  have HG2 := Lib.hid (show ∀ wz, FieldsIn wz.heap.size wz a l → Calls Tryd.prog 25 #[.slice a n cap, .string x] wz (GetS wz (gv, gb)) from fun wz h => by
    rw [← HGE.out]; exact (refGet_any l x a cap n wz h HN.out HLS.out (by have := H20.out; omega) hx).mono fun _ _ h => h.told)
  go_wp2_with fail
  refine (HG1.out _ HIN1.out).mono ?_
  rintro e w3 ⟨rfl, hb3⟩
  have HIN3 := Lib.hid (HIN1.out.below hb3 hb3.size)
  have HB3 := Lib.hid (HB1.out.trans (hb3.mono HB1.out.size))
  clear hb3 HIN1 HB1 HG1
  go_wp2_with fail
  refine (HG2.out _ HIN3.out).mono ?_
  rintro e w4 ⟨rfl, hb4⟩
  have HIN4 := Lib.hid (HIN3.out.below hb4 hb4.size)
  have HB4 := Lib.hid (HB3.out.trans (hb4.mono HB3.out.size))
  clear hb4 HIN3 HB3 HG2
  have HC1 := Lib.hid (show Calls Tryd.prog 27 #[.slice a n cap, .string x] w4 (SSlice w4 A) from by
    rw [← HAE.out, HN.out]; exact (all_any l x a cap w4 HIN4.out HLS.out (by have := H20.out; omega) hx).mono fun _ _ h => h.slice)
  go_wp2_with fail
  refine HC1.out.mono ?_
  rintro e w5 ⟨a5, c5, rfl, hs5, hb5⟩
  rw [HNA.out]
  have HS5 := Lib.hid hs5
  have HIN5 := Lib.hid (HIN4.out.below hb5 hb5.size)
  have HB5 := Lib.hid (HB4.out.trans (hb5.mono HB4.out.size))
  clear hs5 hb5 HIN4 HB4 HC1
  have HC2 := Lib.hid (show Calls Tryd.prog 28 #[.slice a n cap, .string x] w5 (SSlice w5 A) from by
    rw [← HAE.out]; exact (refAll_any l x a cap n w5 HIN5.out HN.out HLS.out (by have := H20.out; omega) hx).mono fun _ _ h => h.slice)
  go_wp2_with fail
  refine HC2.out.mono ?_
  rintro e w6 ⟨a6, c6, rfl, hs6, hb6⟩
  rw [HNA.out]
  have HC3 := Lib.hid (rows_same A a5 a6 c5 c6 nA w6 HNA.out (HS5.out.below hb6 hb6.size) hs6 (by have := HA20.out; omega))
  have HIN6 := Lib.hid (HIN5.out.below hb6 hb6.size)
  have HB6 := Lib.hid (HB5.out.trans (hb6.mono HB5.out.size))
  clear hs6 hb6 HIN5 HB5 HC2 HS5
  go_wp2_with fail
  refine HC3.out.mono ?_
  rintro e w7 ⟨m7, rfl, rfl⟩
  obtain ⟨w7, hw7⟩ : ∃ w7, w6.drewN m7 = w7 := ⟨_, rfl⟩
  have HIN7 : Hid (FieldsIn w7.heap.size w7 a l) := Lib.hid (by rw [← hw7]; exact HIN6.out)
  have HB7 : Hid (Below w.heap.size w w7) := Lib.hid (by rw [← hw7]; exact below_drewN HB6.out m7)
  rw [hw7]
  clear hw7 HIN6 HB6 HC3
  have HC4 := Lib.hid (show Calls Tryd.prog 29 #[.slice a n cap, .string x] w7 (SSlice w7 L) from by
    rw [← HLE.out, HN.out]; exact (list_any l x a cap w7 HIN7.out HLS.out (by have := H20.out; omega) HVS.out hx).mono fun _ _ h => h.slice)
  go_wp2_with fail
  refine HC4.out.mono ?_
  rintro e w8 ⟨a8, c8, rfl, hs8, hb8⟩
  rw [HNL.out]
  have HS8 := Lib.hid hs8
  have HIN8 := Lib.hid (HIN7.out.below hb8 hb8.size)
  have HB8 := Lib.hid (HB7.out.trans (hb8.mono HB7.out.size))
  clear hs8 hb8 HIN7 HB7 HC4
  have HC5 := Lib.hid (show Calls Tryd.prog 30 #[.slice a n cap, .string x] w8 (SSlice w8 L) from by
    rw [← HLE.out]; exact (refList_any l x a cap n w8 HIN8.out HN.out HLS.out (by have := H20.out; omega) HVS.out hx).mono fun _ _ h => h.slice)
  go_wp2_with fail
  refine HC5.out.mono ?_
  rintro e w9 ⟨a9, c9, rfl, hs9, hb9⟩
  rw [HNL.out]
  have HC6 := Lib.hid (rows_same L a8 a9 c8 c9 nL w9 HNL.out (HS8.out.below hb9 hb9.size) hs9 (by have := HL20.out; omega))
  have HIN9 := Lib.hid (HIN8.out.below hb9 hb9.size)
  have HB9 := Lib.hid (HB8.out.trans (hb9.mono HB8.out.size))
  clear hs9 hb9 HIN8 HB8 HC5 HS8
  go_wp2_with fail
  refine HC6.out.mono ?_
  rintro e w10 ⟨m10, rfl, rfl⟩
  obtain ⟨w10, hw10⟩ : ∃ w10, w9.drewN m10 = w10 := ⟨_, rfl⟩
  have HIN10 : Hid (FieldsIn w10.heap.size w10 a l) := Lib.hid (by rw [← hw10]; exact HIN9.out)
  have HB10 : Hid (Below w.heap.size w w10) := Lib.hid (by rw [← hw10]; exact below_drewN HB9.out m10)
  rw [hw10]
  clear hw10 HIN9 HB9 HC6
  have HC7 := Lib.hid (show Calls Tryd.prog 31 #[.slice a n cap, .string x] w10 (FSlice w10 D) from by
    rw [← HDE.out]; exact (drop_any l x a cap n w10 HIN10.out HN.out HLS.out (by have := H20.out; omega) hx).mono fun _ _ h => h.slice)
  go_wp2_with fail
  refine HC7.out.mono ?_
  rintro e w11 ⟨a11, c11, rfl, hs11, hb11⟩
  rw [HND.out]
  have HS11 := Lib.hid hs11
  have HIN11 := Lib.hid (HIN10.out.below hb11 hb11.size)
  have HB11 := Lib.hid (HB10.out.trans (hb11.mono HB10.out.size))
  clear hs11 hb11 HIN10 HB10 HC7
  have HC8 := Lib.hid (show Calls Tryd.prog 32 #[.slice a n cap, .string x] w11 (FSlice w11 D) from by
    rw [← HDE.out]; exact (refDrop_any l x a cap n w11 HIN11.out HN.out HLS.out (by have := H20.out; omega) hx).mono fun _ _ h => h.slice)
  go_wp2_with fail
  refine HC8.out.mono ?_
  rintro e w12 ⟨a12, c12, rfl, hs12, hb12⟩
  rw [HND.out]
  have HC9 := Lib.hid (fields_n D a11 a12 c11 c12 nD w12 HND.out (HS11.out.below hb12 hb12.size) hs12 (by have := HD20.out; omega))
  have HIN12 := Lib.hid (HIN11.out.below hb12 hb12.size)
  have HB12 := Lib.hid (HB11.out.trans (hb12.mono HB11.out.size))
  clear hs12 hb12 HIN11 HB11 HC8 HS11
  go_wp2_with fail
  refine HC9.out.mono ?_
  rintro e w13 ⟨rfl, m13, rfl⟩
  obtain ⟨w13, hw13⟩ : ∃ w13, w12.drewN m13 = w13 := ⟨_, rfl⟩
  have HIN13 : Hid (FieldsIn w13.heap.size w13 a l) := Lib.hid (by rw [← hw13]; exact HIN12.out)
  have HB13 : Hid (Below w.heap.size w w13) := Lib.hid (by rw [← hw13]; exact below_drewN HB12.out m13)
  rw [hw13]
  clear hw13 HIN12 HB12 HC9
  have HC10 := Lib.hid (show Calls Tryd.prog 33 #[.slice a n cap, .string x, .string y] w13 (FSlice w13 S) from by
    rw [← HSE.out]; exact (set_any l x y a cap n w13 HIN13.out HN.out HLS.out (by have := H20.out; omega) hx).mono fun _ _ h => h.slice)
  go_wp2_with fail
  refine HC10.out.mono ?_
  rintro e w14 ⟨a14, c14, rfl, hs14, hb14⟩
  rw [HNS.out]
  have HS14 := Lib.hid hs14
  have HIN14 := Lib.hid (HIN13.out.below hb14 hb14.size)
  have HB14 := Lib.hid (HB13.out.trans (hb14.mono HB13.out.size))
  clear hs14 hb14 HIN13 HB13 HC10
  have HC11 := Lib.hid (show Calls Tryd.prog 34 #[.slice a n cap, .string x, .string y] w14 (FSlice w14 S) from by
    rw [← HSE.out]; exact (refSet_any l x y a cap n w14 HIN14.out HN.out HLS.out (by have := H20.out; omega) hx).mono fun _ _ h => h.slice)
  go_wp2_with fail
  refine HC11.out.mono ?_
  rintro e w15 ⟨a15, c15, rfl, hs15, hb15⟩
  rw [HNS.out]
  have HC12 := Lib.hid (fields_n S a14 a15 c14 c15 nS w15 HNS.out (HS14.out.below hb15 hb15.size) hs15 (by have := HS20.out; omega))
  have HIN15 := Lib.hid (HIN14.out.below hb15 hb15.size)
  have HB15 := Lib.hid (HB14.out.trans (hb15.mono HB14.out.size))
  clear hs15 hb15 HIN14 HB14 HC11 HS14
  go_wp2_with fail
  refine HC12.out.mono ?_
  rintro e w16 ⟨rfl, m16, rfl⟩
  obtain ⟨w16, hw16⟩ : ∃ w16, w15.drewN m16 = w16 := ⟨_, rfl⟩
  have HIN16 : Hid (FieldsIn w16.heap.size w16 a l) := Lib.hid (by rw [← hw16]; exact HIN15.out)
  have HB16 : Hid (Below w.heap.size w w16) := Lib.hid (by rw [← hw16]; exact below_drewN HB15.out m16)
  rw [hw16]
  clear hw16 HIN15 HB15 HC12
  have HC13 := Lib.hid (show Calls Tryd.prog 35 #[.slice a n cap] w16 (fun e w' => e = .returned (.string T) ∧ Below w16.heap.size w16 w') from by
    rw [← HTE.out, HN.out]; exact lines_any l a cap w16 HIN16.out (by have := H20.out; omega) HWS.out)
  go_wp2_with fail
  refine HC13.out.mono ?_
  rintro e w17 ⟨rfl, hb17⟩
  have HIN17 := Lib.hid (HIN16.out.below hb17 hb17.size)
  have HB17 := Lib.hid (HB16.out.trans (hb17.mono HB16.out.size))
  clear hb17 HIN16 HB16 HC13
  have HC14 := Lib.hid (show Calls Tryd.prog 36 #[.slice a n cap] w17 (fun e w' => e = .returned (.string T) ∧ Below w17.heap.size w17 w') from by
    rw [← HTE.out]; exact refLines_any l a cap n w17 HIN17.out HN.out (by have := H20.out; omega) HWS.out)
  go_wp2_with fail
  refine HC14.out.mono ?_
  rintro e w18 ⟨rfl, hb18⟩
  have HB18 := Lib.hid (HB17.out.trans (hb18.mono HB17.out.size))
  clear hb18 HIN17 HB17 HC14
  go_wp2
  go_ret
  exact ⟨rfl, HB18.out⟩
end Go.Proofs.YtckhjhgddnjfpaaDoor
