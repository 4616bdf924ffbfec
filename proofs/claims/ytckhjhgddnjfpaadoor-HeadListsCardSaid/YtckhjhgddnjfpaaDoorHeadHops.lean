/-
  HeadHops: fields of one connection alone are left out, in the program and in the reference.
-/
import Derived.Test.YtckhjhgddnjfpaaDoorHeadAsks
namespace Go.Proofs.YtckhjhgddnjfpaaDoor
open Go.RowKit HeadMath

def bigN : List ByteArray := [⟨#[67, 111, 110, 110, 101, 99, 116, 105, 111, 110]⟩, ⟨#[75, 101, 101, 112, 45, 65, 108, 105, 118, 101]⟩, ⟨#[80, 114, 111, 120, 121, 45, 67, 111, 110, 110, 101, 99, 116, 105, 111, 110]⟩, ⟨#[80, 114, 111, 120, 121, 45, 65, 117, 116, 104, 101, 110, 116, 105, 99, 97, 116, 101]⟩, ⟨#[80, 114, 111, 120, 121, 45, 65, 117, 116, 104, 111, 114, 105, 122, 97, 116, 105, 111, 110]⟩, ⟨#[84, 69]⟩, ⟨#[84, 114, 97, 105, 108, 101, 114]⟩, ⟨#[84, 114, 97, 110, 115, 102, 101, 114, 45, 69, 110, 99, 111, 100, 105, 110, 103]⟩, ⟨#[85, 112, 103, 114, 97, 100, 101]⟩]
def lowN : List ByteArray := [⟨#[99, 111, 110, 110, 101, 99, 116, 105, 111, 110]⟩, ⟨#[107, 101, 101, 112, 45, 97, 108, 105, 118, 101]⟩, ⟨#[112, 114, 111, 120, 121, 45, 99, 111, 110, 110, 101, 99, 116, 105, 111, 110]⟩, ⟨#[112, 114, 111, 120, 121, 45, 97, 117, 116, 104, 101, 110, 116, 105, 99, 97, 116, 101]⟩, ⟨#[112, 114, 111, 120, 121, 45, 97, 117, 116, 104, 111, 114, 105, 122, 97, 116, 105, 111, 110]⟩, ⟨#[116, 101]⟩, ⟨#[116, 114, 97, 105, 108, 101, 114]⟩, ⟨#[116, 114, 97, 110, 115, 102, 101, 114, 45, 101, 110, 99, 111, 100, 105, 110, 103]⟩, ⟨#[117, 112, 103, 114, 97, 100, 101]⟩]
def conN : ByteArray := ⟨#[67, 111, 110, 110, 101, 99, 116, 105, 111, 110]⟩
def lowOf (n : ByteArray) : List UInt8 := lowF n.data.toList
theorem inNames_low (ns : List ByteArray) (nm : ByteArray) : inNames ns nm = (ns.map lowOf).any fun t => lowF nm.data.toList == t := by
  unfold inNames
  rw [List.any_map]
  rfl
theorem names_low : bigN.map lowOf = lowN.map lowOf := by decide +kernel
theorem inNames_hop (r : List ByteArray) (nm : ByteArray) : inNames (bigN ++ r) nm = inNames (lowN ++ r) nm := by
  rw [inNames_low, inNames_low, List.map_append, List.map_append, names_low]
theorem dropF_hop (r : List ByteArray) (l : Fs) : dropF (bigN ++ r) l = dropF (lowN ++ r) l := by
  unfold dropF
  exact congrArg (fun p => List.filter p l) (funext fun f => by rw [inNames_hop])
theorem dropF_snoc (ns : List ByteArray) (x : ByteArray) (l : Fs) : dropF (ns ++ [x]) l = dropF [x] (dropF ns l) := by
  unfold dropF
  rw [List.filter_filter]
  congr 1
  funext f
  unfold inNames
  rw [List.any_append]
  simp only [List.any_cons, List.any_nil, Bool.or_false, Bool.not_or]
  rw [Bool.and_comm]
theorem dropF_empty (l : Fs) : dropF [] l = l := by
  unfold dropF
  rw [List.filter_eq_self]
  intro f _
  rfl
theorem partsF_sizes : ∀ (m : Nat) (v : ByteArray), v.size ≤ m → ∀ p ∈ partsF v, p.size ≤ v.size := by
  intro m
  induction m with
  | zero => intro v hv p hp; rw [partsF_nil (by omega)] at hp; cases hp
  | succ m ih =>
    intro v hv p hp
    by_cases h0 : v.size = 0
    · rw [partsF_nil h0] at hp; cases hp
    · have hr := restOf_size v
      have hpc : (pieceOf v).size ≤ v.size := by
        unfold pieceOf
        refine Nat.le_trans (size_trim _) ?_
        rw [extract_size v 0 (endOf v) (Nat.zero_le _) (endOf_le v)]
        have := endOf_le v
        omega
      by_cases hpp : (pieceOf v).size = 0
      · rw [partsF_skip h0 hpp] at hp
        have := ih (restOf v) (by omega) p hp
        omega
      · rw [partsF_take h0 hpp] at hp
        rcases List.mem_cons.1 hp with rfl | hp
        · exact hpc
        · have := ih (restOf v) (by omega) p hp
          omega
theorem listF_sizes {x : ByteArray} {l : Fs} {c : Nat} (h : ∀ j (h : j < l.length), l[j].2.size ≤ c) : ∀ p ∈ listF x l, p.size ≤ c := by
  intro p hp
  unfold listF at hp
  obtain ⟨v, hv, hp⟩ := List.mem_flatMap.1 hp
  have h1 := allF_size (n := x) h v hv
  have h2 := partsF_sizes v.size v (Nat.le_refl _) p hp
  omega
theorem own_lit (B : Nat) (w : World) (ns : List ByteArray) (hB : B ≤ w.heap.size) (hn : ns.length ≤ maxLen) : OwnStrs B (w.alloc (.cells (strCells ns).toArray 9)) (.slice (some ⟨w.heap.size, 0, none⟩) ns.length ns.length) ns := by
  refine ⟨by rw [strCells_len]; omega, .inr ⟨w.heap.size, ns.length, (strCells ns).toArray, rfl, hB, heap_alloc_new w _, Nat.le_refl _, hn, by simp [strCells_len], ?_⟩⟩
  rw [List.toList_toArray, List.take_of_length_le (by rw [strCells_len]; omega)]
theorem big_sizes : ∀ s ∈ bigN, s.size ≤ 300 := by decide
theorem low_sizes : ∀ s ∈ lowN, s.size ≤ 300 := by decide

set_option maxRecDepth 100000 in
set_option maxHeartbeats 4000000 in
theorem hop_any (l : Fs) (a : Option Addr) (cap n : Nat) (w : World) (hin : FieldsIn w.heap.size w a l) (hN : n = l.length) (h20 : l.length ≤ 20) (hl : ∀ f ∈ l, f.1.size ≤ 300 ∧ f.2.size ≤ 300) :
    Calls Tryd.prog 37 #[.slice a n cap] w (FieldPost w (dropF (lowN ++ listF conN l) l)) := by
  have hls := smallF_of (by omega) hl
  have hvs : ∀ j (h : j < l.length), l[j].2.size ≤ 300 := fun j h => (hl _ (List.getElem_mem h)).2
  have hLl : (listF conN l).length ≤ 100000100000 := listF_len (by omega) (fun j h => by have := hvs j h; omega)
  have hLz := listF_sizes (x := conN) hvs
  have hb0 := (Below.refl w.heap.size w).alloc (o := .cells (strCells bigN).toArray 9) (Nat.le_refl _)
  have hown := own_lit w.heap.size w bigN (Nat.le_refl _) (by decide)
  have HIN0 := Lib.hid (hin.below hb0 hb0.size)
  have HIN := Lib.hid hin
  have HLS := Lib.hid hls
  have HD := Lib.hid (dropF_hop (listF conN l) l)
  have HC := Lib.hid (show Calls Tryd.prog 29 #[.slice a n cap, .string conN] (w.alloc (.cells (strCells bigN).toArray 9)) (RowPost (w.alloc (.cells (strCells bigN).toArray 9)) (listF conN l)) from by
    rw [hN]; exact list_any l conN a cap _ HIN0.out hls (by omega) (fun j h => by have := hvs j h; omega) (by decide))
  obtain ⟨L, hL⟩ : ∃ L, listF conN l = L := ⟨_, rfl⟩
  rw [hL] at HC hLl hLz HD ⊢
  obtain ⟨nL, hnL⟩ : ∃ m, L.length = m := ⟨_, rfl⟩
  have HNL := Lib.hid hnL
  have HOWN := Lib.hid hown
  have HB0 := Lib.hid hb0
  have HLl := Lib.hid hLl
  have hSM : Small (bigN ++ L) := small300 (fun s hs => by
    rcases List.mem_append.1 hs with h | h
    · exact big_sizes s h
    · exact hLz s h)
  have HSM := Lib.hid hSM
  have HN := Lib.hid hN
  have H20 := Lib.hid h20
  clear hls hvs hLz hLl hb0 hown hL hnL hin hSM hl hN h20
  go_enter Tryd.func37, Tryd.ntmps37
  go_wp2_with fail
  refine HC.out.mono ?_
  rintro e w1 ⟨v1, rfl, hown1, hb1⟩
  obtain ⟨aL, cL, rfl, hsL, hnil⟩ := OwnStrs.shape (l := L) hown1
  rw [HNL.out]
  have HSL := Lib.hid hsL
  have HNIL := Lib.hid hnil
  have HO1 := Lib.hid (show OwnStrs w.heap.size w1 (.slice (some ⟨w.heap.size, 0, none⟩) 9 9) bigN from ownsRow_below HOWN.out hb1)
  have HB1 := Lib.hid (HB0.out.trans (hb1.mono HB0.out.size))
  have HIN1 := Lib.hid (HIN0.out.below hb1 hb1.size)
  have hlen : bigN.length + L.length ≤ 1000000000000 := by have := HLl.out; show 9 + _ ≤ _; omega
  have HLEN := Lib.hid hlen
  clear hown1 hb1 hsL hnil hlen HC HOWN HB0 HIN0
  go_wp2_with (at_builtin; refine wpList_append_strs rfl _ _ rfl w.heap.size w1.heap.size (.slice (some ⟨w.heap.size, 0, none⟩) 9 9) bigN rfl HO1.out HB1.out.size aL cL nL L rfl HNL.out.symm HSL.out HNIL.out HLEN.out ?_)
  intro v2 w2 ho2 hg2
  have hlt := World.ownsRow.lt HO1.out
  have HB2 := Lib.hid (HB1.out.grown hg2 HB1.out.size (fun g hg => (hlt g hg).1))
  obtain ⟨aN, cN, rfl, hsN, _⟩ := OwnStrs.shape ho2
  have hnN : (bigN ++ L).length = 9 + nL := by rw [List.length_append, HNL.out]; rfl
  obtain ⟨nN, hnN2⟩ : ∃ m, 9 + nL = m := ⟨_, rfl⟩
  have HIN2 := Lib.hid (HIN.out.below HB2.out HB2.out.size)
  have HCW := Lib.hid (without_any l (bigN ++ L) a aN cap cN n nN w2 HIN2.out HN.out HLS.out (by have := H20.out; omega) hsN (by omega) HSM.out (by have := HLl.out; have := HNL.out; omega))
  rw [hnN, hnN2]
  clear ho2 hg2 hlt hsN hnN hnN2 HO1 HB1 HIN1 HSL
  go_wp2_with fail
  refine HCW.out.mono ?_
  rw [HD.out]
  rintro e w3 ⟨v3, rfl, hown3, hb3⟩
  have HO3 := Lib.hid (ownsRow_base hown3 HB2.out.size)
  have HB3 := Lib.hid (HB2.out.trans (hb3.mono HB2.out.size))
  clear hown3 hb3 HCW
  go_wp2
  go_ret
  exact ⟨_, rfl, HO3.out, HB3.out⟩

set_option maxRecDepth 100000 in
set_option maxHeartbeats 4000000 in
theorem refHop_any (l : Fs) (a : Option Addr) (cap n : Nat) (w : World) (hin : FieldsIn w.heap.size w a l) (hN : n = l.length) (h20 : l.length ≤ 20) (hl : ∀ f ∈ l, f.1.size ≤ 300 ∧ f.2.size ≤ 300) :
    Calls Tryd.prog 38 #[.slice a n cap] w (FSlice w (dropF (lowN ++ listF conN l) l)) := by
  have hls := smallF_of (by omega) hl
  have hvs : ∀ j (h : j < l.length), l[j].2.size ≤ 300 := fun j h => (hl _ (List.getElem_mem h)).2
  have hLl : (listF conN l).length ≤ 100000100000 := listF_len (by omega) (fun j h => by have := hvs j h; omega)
  have hLz := listF_sizes (x := conN) hvs
  have hb0 := (Below.refl w.heap.size w).alloc (o := .cells (strCells lowN).toArray 9) (Nat.le_refl _)
  have hown := own_lit w.heap.size w lowN (Nat.le_refl _) (by decide)
  have HIN0 := Lib.hid (hin.below hb0 hb0.size)
  have HIN := Lib.hid hin
  have HC := Lib.hid (show Calls Tryd.prog 30 #[.slice a n cap, .string conN] (w.alloc (.cells (strCells lowN).toArray 9)) (RowPost (w.alloc (.cells (strCells lowN).toArray 9)) (listF conN l)) from
    refList_any l conN a cap n _ HIN0.out hN hls (by omega) (fun j h => by have := hvs j h; omega) (by decide))
  have HLF := Lib.hid hl
  obtain ⟨L, hL⟩ : ∃ L, listF conN l = L := ⟨_, rfl⟩
  rw [hL] at HC hLl hLz ⊢
  obtain ⟨nL, hnL⟩ : ∃ m, L.length = m := ⟨_, rfl⟩
  have HNL := Lib.hid hnL
  have HOWN := Lib.hid hown
  have HB0 := Lib.hid hb0
  have HLl := Lib.hid hLl
  have hSM : ∀ s ∈ lowN ++ L, s.size ≤ 300 := fun s hs => by
    rcases List.mem_append.1 hs with h | h
    · exact low_sizes s h
    · exact hLz s h
  have HSM := Lib.hid hSM
  have HN := Lib.hid hN
  have H20 := Lib.hid h20
  clear hls hvs hLz hLl hb0 hown hL hnL hin hSM hl hN h20
  go_enter Tryd.func38, Tryd.ntmps38
  go_wp2_with fail
  refine HC.out.mono ?_
  rintro e w1 ⟨v1, rfl, hown1, hb1⟩
  obtain ⟨aL, cL, rfl, hsL, hnil⟩ := OwnStrs.shape (l := L) hown1
  rw [HNL.out]
  have HSL := Lib.hid hsL
  have HNIL := Lib.hid hnil
  have HO1 := Lib.hid (show OwnStrs w.heap.size w1 (.slice (some ⟨w.heap.size, 0, none⟩) 9 9) lowN from ownsRow_below HOWN.out hb1)
  have HB1 := Lib.hid (HB0.out.trans (hb1.mono HB0.out.size))
  have HIN1 := Lib.hid (HIN0.out.below hb1 hb1.size)
  have hlen : lowN.length + L.length ≤ 1000000000000 := by have := HLl.out; show 9 + _ ≤ _; omega
  have HLEN := Lib.hid hlen
  clear hown1 hb1 hsL hnil hlen HC HOWN HB0 HIN0
  go_wp2_with (at_builtin; refine wpList_append_strs rfl _ _ rfl w.heap.size w1.heap.size (.slice (some ⟨w.heap.size, 0, none⟩) 9 9) lowN rfl HO1.out HB1.out.size aL cL nL L rfl HNL.out.symm HSL.out HNIL.out HLEN.out ?_)
  intro v2 w2 ho2 hg2
  have hlt := World.ownsRow.lt HO1.out
  have HB2 := Lib.hid (HB1.out.grown hg2 HB1.out.size (fun g hg => (hlt g hg).1))
  obtain ⟨aN, cN, rfl, hsN, _⟩ := OwnStrs.shape ho2
  have hnN : (lowN ++ L).length = 9 + nL := by rw [List.length_append, HNL.out]; rfl
  obtain ⟨X, hX⟩ : ∃ X, lowN ++ L = X := ⟨_, rfl⟩
  obtain ⟨nN, hnN2⟩ : ∃ m, 9 + nL = m := ⟨_, rfl⟩
  have HX := Lib.hid hX
  rw [hX] at hsN hnN HSM
  rw [hnN2] at hnN
  rw [show (lowN ++ L).length = nN from by rw [HX.out]; exact hnN]
  have HNN := Lib.hid hnN
  have HSN := Lib.hid hsN
  have HIN2 := Lib.hid (HIN.out.below HB2.out HB2.out.size)
  have hnb : nN ≤ 100000200000 := by have := HLl.out; have := HNL.out; omega
  clear ho2 hg2 hlt hsN hnN hnN2 hX HO1 HB1 HIN1 HSL
  go_wp2
  go_loopw [4, 5] (fun v i wr => ∃ (k : Nat) (r : Fs) (a2 : Option Addr) (n2 c2 : Nat), k ≤ nN ∧ i = .int .i64 k ∧ v = .slice a2 n2 c2 ∧ Hid (dropF (X.take k) l = r) ∧ Hid (r.length = n2) ∧ Hid (FieldsIn wr.heap.size wr a2 r) ∧ Hid (Below w2.heap.size w2 wr)) (fun _ i _ => nN - (intOf i).toNat)
  case atStart => exact ⟨0, l, a, n, cap, Nat.zero_le _, rfl, rfl, Lib.hid (by rw [List.take_zero, dropF_empty]), Lib.hid HN.out.symm, HIN2, Lib.hid (Below.refl _ _)⟩
  case round =>
    obtain ⟨k, r, a2, n2, c2, hk, rfl, rfl, HR, HRL, HF, HB⟩ := hrel
    by_cases hlt : k < nN
    · have hlt2 : k < X.length := by have := HNN.out; omega
      obtain ⟨b, off, rfl, hbl, hc⟩ := HSN.out k hlt2
      have x0 := (HB.out.cell (p := ⟨b, off + k, none⟩) hbl).trans hc
      have hxz := HSM.out _ (List.getElem_mem hlt2)
      obtain ⟨x, hx⟩ : ∃ x, X[k] = x := ⟨_, rfl⟩
      rw [hx] at x0 hxz
      have i1 : (k : Int) < (nN : Int) := by omega
      have hrl : r.length ≤ 20 := by rw [← HR.out]; exact Nat.le_trans (dropF_len _ _) H20.out
      have hrs : ∀ f ∈ r, f.1.size ≤ 300 ∧ f.2.size ≤ 300 := by rw [← HR.out]; exact dropF_all _ HLF.out
      have HC := Lib.hid ((refDrop_any r x a2 c2 n2 wr HF.out HRL.out.symm (smallF_of (by omega) hrs) (by omega) (by omega)).mono fun _ _ h => h.slice)
      have HR2 := Lib.hid (show dropF (X.take (k + 1)) l = dropF [x] r from by rw [List.take_succ_eq_append_getElem hlt2, dropF_snoc, HR.out, hx])
      clear hc hx hrl hrs
      go_wp2_with fail
      refine HC.out.mono ?_
      rintro e w3 ⟨a3, c3, rfl, hf3, hb3⟩
      have HF3 := Lib.hid hf3
      have HB3 := Lib.hid (HB.out.trans (hb3.mono HB.out.size))
      clear hf3 hb3 HC HF HB
      go_wp2
      go_roundw
      case rel => exact ⟨k + 1, dropF [x] r, a3, (dropF [x] r).length, c3, by omega, by go_num, rfl, HR2, Lib.hid rfl, HF3, HB3⟩
      case measure => simp [intOf]; omega
    · have HE : Hid (dropF (lowN ++ L) l = r) := Lib.hid (by have := HR.out; rw [List.take_of_length_le (by have := HNN.out; omega)] at this; rw [HX.out]; exact this)
      go_wp2
      go_ret
      rw [HE.out]
      exact ⟨a2, c2, (by rw [HRL.out]; rfl), HF.out, HB2.out.trans (HB.out.mono HB2.out.size)⟩
set_option maxRecDepth 100000 in
set_option maxHeartbeats 4000000 in
theorem hops_any (l : Fs) (a : Option Addr) (cap n : Nat) (w : World) (hin : FieldsIn w.heap.size w a l) (hN : n = l.length) (hle : l.length ≤ maxLen) (hsz : ∀ j (h : j < l.length), (l[j]).1.size ≤ maxLen ∧ (l[j]).2.size ≤ maxLen) :
    Calls Tryd.prog 6 #[.slice a n cap] w (SetsPost w) := by
  unfold maxLen at hle hsz
  have HIN := Lib.hid hin
  have HN := Lib.hid hN
  have HSZ := Lib.hid hsz
  have hn63 : n < 9223372036854775808 := by omega
  clear hin hN hsz hle
  go_enter Tryd.func6, Tryd.ntmps6
  go_wp2_with fail
  refine (known_any _).mono ?_
  rintro e w1 ⟨rfl, hb1⟩
  have HIN1 := Lib.hid (HIN.out.below hb1 hb1.size)
  have HB1 := Lib.hid hb1
  clear hb1
  go_wp2_with fail
  refine (light_any l a cap n 20 w1 HIN1.out HN.out hn63 (by omega) HSZ.out).mono ?_
  rintro e w2 ⟨lit, rfl, rfl, hlit⟩
  cases lit with
  | false =>
    clear hlit
    go_wp2
    go_ret
    exact ⟨rfl, HB1.out⟩
  | true =>
  obtain ⟨h20, hl⟩ := hlit rfl
  have hl300 : ∀ f ∈ l, f.1.size ≤ 300 ∧ f.2.size ≤ 300 := fun f hf => by
    obtain ⟨j, hj, rfl⟩ := List.getElem_of_mem hf
    exact hl j hj
  have HL := Lib.hid hl300
  have H20 := Lib.hid h20
  have HC1 := Lib.hid ((hop_any l a cap n w2 HIN1.out HN.out h20 hl300).mono fun _ _ h => h.slice)
  have HC2 := Lib.hid (show ∀ wz, FieldsIn wz.heap.size wz a l → Calls Tryd.prog 38 #[.slice a n cap] wz (FSlice wz (dropF (lowN ++ listF conN l) l)) from fun wz h => refHop_any l a cap n wz h HN.out H20.out HL.out)
  obtain ⟨R, hR⟩ : ∃ R, dropF (lowN ++ listF conN l) l = R := ⟨_, rfl⟩
  have hRl : R.length ≤ 20 := by rw [← hR]; exact Nat.le_trans (dropF_len _ _) h20
  rw [hR] at HC1 HC2
  have HRL := Lib.hid hRl
  obtain ⟨nR, hnR⟩ : ∃ m, R.length = m := ⟨_, rfl⟩
  have HNR := Lib.hid hnR
  clear hlit hl hl300 h20 hR hRl hnR
  go_wp2_with fail
  refine HC1.out.mono ?_
  rintro e w3 ⟨a3, c3, rfl, hf3, hb3⟩
  rw [HNR.out]
  have HF3 := Lib.hid hf3
  have HIN3 := Lib.hid (HIN1.out.below hb3 hb3.size)
  have HB3 := Lib.hid (HB1.out.trans (hb3.mono HB1.out.size))
  clear hf3 hb3 HIN1 HB1 HC1
  go_wp2_with fail
  refine (HC2.out _ HIN3.out).mono ?_
  rintro e w4 ⟨a4, c4, rfl, hf4, hb4⟩
  rw [HNR.out]
  have HC3 := Lib.hid (fields_n R a3 a4 c3 c4 nR w4 HNR.out (HF3.out.below hb4 hb4.size) hf4 (by have := HRL.out; omega))
  have HB4 := Lib.hid (HB3.out.trans (hb4.mono HB3.out.size))
  clear hf4 hb4 HIN3 HB3 HC2 HF3
  go_wp2_with fail
  refine HC3.out.mono ?_
  rintro e w5 ⟨rfl, m5, rfl⟩
  have HB5 := Lib.hid (below_drewN HB4.out m5)
  go_wp2
  go_ret
  exact ⟨rfl, HB5.out⟩
end Go.Proofs.YtckhjhgddnjfpaaDoor
