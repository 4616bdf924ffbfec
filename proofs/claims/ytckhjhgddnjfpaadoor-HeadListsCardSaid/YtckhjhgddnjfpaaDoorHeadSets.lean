/-
  HeadSets.
-/
import Derived.Test.YtckhjhgddnjfpaaDoorHeadLight
import Derived.Test.YtckhjhgddnjfpaaDoorHeadWorld
namespace Go.Proofs.YtckhjhgddnjfpaaDoor
open Go.RowKit HeadMath

def FSlice (w : World) (r : Fs) (e : Ending) (w' : World) : Prop := ∃ a c, e = .returned (.slice a r.length c) ∧ FieldsIn w'.heap.size w' a r ∧ Below w.heap.size w w'
theorem FieldPost.slice {w : World} {r : Fs} {e : Ending} {w' : World} (h : FieldPost w r e w') : FSlice w r e w' := by
  obtain ⟨v, rfl, hown, hb⟩ := h
  rcases hown.2 with ⟨rfl, h1⟩ | ⟨g, c, cur, rfl, _⟩
  · have h0 : r = [] := List.eq_nil_of_length_eq_zero h1
    subst h0
    exact ⟨none, 0, rfl, fun j h => absurd h (by simp), hb⟩
  · exact ⟨_, _, rfl, fieldsIn_own hown, hb⟩
def SSlice (w : World) (r : List ByteArray) (e : Ending) (w' : World) : Prop := ∃ a c, e = .returned (.slice a r.length c) ∧ StrsIn w'.heap.size w' a r ∧ Below w.heap.size w w'
theorem RowPost.slice {w : World} {r : List ByteArray} {e : Ending} {w' : World} (h : RowPost w r e w') : SSlice w r e w' := by
  obtain ⟨v, rfl, hown, hb⟩ := h
  rcases hown.2 with ⟨rfl, h1⟩ | ⟨g, c, cur, rfl, _⟩
  · have h0 : r = [] := List.eq_nil_of_length_eq_zero h1
    subst h0
    exact ⟨none, 0, rfl, fun j h => absurd h (by simp), hb⟩
  · exact ⟨_, _, rfl, strsIn_own hown, hb⟩
theorem get_no {l : Fs} {n : ByteArray} {a : Option Addr} {cap : Nat} {w : World} (hv : getF n l = none) (hin : FieldsIn w.heap.size w a l) (hsm : SmallF l) (hle : l.length ≤ 140737488351232) (hn : n.size ≤ 140737488351232) :
    Calls Tryd.prog 24 #[.slice a l.length cap, .string n] w fun e w' => e = .returned (.tuple #[.string { data := #[] }, .bool false]) ∧ Below w.heap.size w w' := by
  refine (get_any l n a cap w hin hsm hle hn).mono ?_
  rintro e w' ⟨hb, ⟨_, rfl⟩ | ⟨v', h, _⟩⟩
  · exact ⟨rfl, hb⟩
  · rw [hv] at h; cases h

theorem sameF_self (x : List UInt8) : sameF x x = true := by unfold sameF; simp
theorem inNames_one (n x : ByteArray) : inNames [n] x = isNamed n (x, x) := by unfold inNames isNamed; simp
theorem dropF_one (n : ByteArray) (l : Fs) : dropF [n] l = l.filter (fun f => !isNamed n f) := by
  unfold dropF
  congr 1
  funext f
  unfold inNames isNamed
  simp
theorem named_self (n v : ByteArray) : isNamed n (n, v) = true := sameF_self _
theorem dropF_dropF (n : ByteArray) (l : Fs) : dropF [n] (dropF [n] l) = dropF [n] l := by
  rw [dropF_one, dropF_one, List.filter_filter]
  congr 1
  funext f
  simp
theorem dropF_setF (n v : ByteArray) (l : Fs) : dropF [n] (setF n v l) = dropF [n] l := by
  have h := dropF_dropF n l
  unfold setF
  rw [dropF_one, List.filter_append] at *
  rw [dropF_one] at *
  rw [h]
  simp [named_self]
theorem dropF_none (n : ByteArray) (l : Fs) : ∀ f ∈ dropF [n] l, isNamed n f = false := by
  intro f hf
  rw [dropF_one] at hf
  have := (List.mem_filter.1 hf).2
  simpa using this
theorem getF_dropF (n : ByteArray) (l : Fs) : getF n (dropF [n] l) = none := getF_none (fun _ hj => dropF_none n l _ (List.getElem_mem hj))
theorem getF_setF (n v : ByteArray) (l : Fs) : getF n (setF n v l) = some v := by
  unfold getF setF
  have h : (dropF [n] l).find? (isNamed n) = none := by
    rw [List.find?_eq_none]
    intro f hf
    rw [dropF_none n l f hf]; simp
  rw [List.find?_append, h]
  simp [named_self]
theorem allF_setF (n v : ByteArray) (l : Fs) : allF n (setF n v l) = [v] := by
  unfold allF setF
  have h : (dropF [n] l).filter (isNamed n) = [] := by
    rw [List.filter_eq_nil_iff]
    intro f hf
    rw [dropF_none n l f hf]; simp
  rw [List.filter_append, h]
  simp [named_self]
theorem dropF_all {P : ByteArray × ByteArray → Prop} (ns : List ByteArray) {l : Fs} (h : ∀ f ∈ l, P f) : ∀ f ∈ dropF ns l, P f := fun f hf => h f (List.mem_filter.1 hf).1
theorem smallF_of {l : Fs} {c : Nat} (hc : c ≤ 140737488351232) (h : ∀ f ∈ l, f.1.size ≤ c ∧ f.2.size ≤ c) : SmallF l := fun j hj => by have := h _ (List.getElem_mem hj); omega

def SetsPost (w : World) (e : Ending) (w' : World) : Prop := e = .returned (.bool true) ∧ Below w.heap.size w w'
set_option maxRecDepth 100000 in
set_option maxHeartbeats 4000000 in
theorem sets_any (l : Fs) (x y : ByteArray) (a : Option Addr) (cap n : Nat) (w : World) (hin : FieldsIn w.heap.size w a l) (hN : n = l.length) (hle : l.length ≤ maxLen) (hsz : ∀ j (h : j < l.length), (l[j]).1.size ≤ maxLen ∧ (l[j]).2.size ≤ maxLen) (hx : x.size ≤ 140737488351232) (hy : y.size ≤ 140737488351232) :
    Calls Tryd.prog 9 #[.slice a n cap, .string x, .string y] w (SetsPost w) := by
  unfold maxLen at hle hsz
  have HIN := Lib.hid hin
  have HN := Lib.hid hN
  have HSZ := Lib.hid hsz
  have hn63 : n < 9223372036854775808 := by omega
  clear hin hN hsz hle
  go_enter Tryd.func9, Tryd.ntmps9
  go_wp2_with fail
  refine (known_any _).mono ?_
  rintro e w1 ⟨rfl, hb1⟩
  have HIN1 := Lib.hid (HIN.out.below hb1 hb1.size)
  have HB1 := Lib.hid hb1
  clear hb1
  go_wp2_with fail
  refine (light_any l a cap n 20 w1 HIN1.out HN.out hn63 (by omega) HSZ.out).mono ?_
  rintro e w2 ⟨lit, rfl, rfl, hlit⟩
  cases lit with
  | false =>
    clear hlit
    go_wp2
    go_ret
    exact ⟨rfl, HB1.out⟩
  | true =>
  by_cases hx1 : (100 : Int) < x.size
  · clear hlit
    go_wp2
    go_ret
    exact ⟨rfl, HB1.out⟩
  by_cases hy1 : (100 : Int) < y.size
  · clear hlit
    have hx2 : ¬ (100 : Int) < x.size := hx1
    go_wp2
    go_ret
    exact ⟨rfl, HB1.out⟩
  obtain ⟨h20, hl⟩ := hlit rfl
  have hl300 : ∀ f ∈ l, f.1.size ≤ 300 ∧ f.2.size ≤ 300 := fun f hf => by
    obtain ⟨j, hj, rfl⟩ := List.getElem_of_mem hf
    exact hl j hj
  have HLS := Lib.hid (smallF_of (by omega) hl300)
  have hS300 : ∀ f ∈ setF x y l, f.1.size ≤ 300 ∧ f.2.size ≤ 300 := fun f hf => by
    rcases List.mem_append.1 hf with h | h
    · exact dropF_all [x] hl300 f h
    · simp at h; subst h; simp only; omega
  have HSS := Lib.hid (smallF_of (by omega) hS300)
  have HDS := Lib.hid (smallF_of (c := 300) (by omega) (dropF_all [x] hl300))
  have hDl := dropF_len [x] l
  have hSl : (setF x y l).length = (dropF [x] l).length + 1 := by simp [setF]
  have HG1 := Lib.hid (getF_setF x y l)
  have HG2 := Lib.hid (getF_dropF x l)
  have HA := Lib.hid (allF_setF x y l)
  have HD1 := Lib.hid (dropF_setF x y l)
  have HD2 := Lib.hid (dropF_dropF x l)
  have HLAST := Lib.hid (show ∀ (h : (dropF [x] l).length < (setF x y l).length), ((setF x y l)[(dropF [x] l).length]).2 = y from fun h => by simp [setF])
  obtain ⟨S, hS⟩ : ∃ S, setF x y l = S := ⟨_, rfl⟩
  obtain ⟨D, hD⟩ : ∃ D, dropF [x] l = D := ⟨_, rfl⟩
  rw [hS, hD] at HLAST
  rw [hS] at HG1 HA HD1 hSl HSS
  rw [hD] at HG2 HD1 HD2 hSl HDS hDl
  have HSE := Lib.hid hS
  have HDE := Lib.hid hD
  have hD20 : D.length ≤ 20 := by omega
  obtain ⟨k, hk⟩ : ∃ k, D.length = k := ⟨_, rfl⟩
  have HK := Lib.hid hk
  have HSL := Lib.hid hSl
  rw [hk] at hSl hD20 HLAST
  have H20 := Lib.hid h20
  have tY : (y.toList == y.toList) = true := by simp
  have HW := Lib.hid hS300
  clear hlit hl hl300 hS300 hDl hS hD hk
  have HQ1 := Lib.hid hx1
  go_wp2_with fail
  refine ((set_any l x y a cap n w2 HIN1.out HN.out HLS.out (by have := H20.out; omega) hx).mono fun _ _ h => h.slice).mono ?_
  rw [HSE.out]
  rintro e w3 ⟨aS, cS, rfl, hf3, hb3⟩
  rw [hSl]
  have HS3 := Lib.hid hf3
  have HIN3 := Lib.hid (HIN1.out.below hb3 hb3.size)
  have HB3 := Lib.hid (HB1.out.trans (hb3.mono HB1.out.size))
  clear hf3 hb3 HIN1 HB1
  go_wp2_with fail
  refine ((drop_any S x aS cS (k + 1) w3 HS3.out hSl.symm HSS.out (by omega) hx).mono fun _ _ h => h.slice).mono ?_
  rw [HD1.out]
  rintro e w4 ⟨aD, cD, rfl, hf4, hb4⟩
  rw [HK.out]
  have HD4 := Lib.hid hf4
  have HS4 := Lib.hid (HS3.out.below hb4 hb4.size)
  have HIN4 := Lib.hid (HIN3.out.below hb4 hb4.size)
  have HB4 := Lib.hid (HB3.out.trans (hb4.mono HB3.out.size))
  clear hf4 hb4 HS3 HIN3 HB3
  have HC1 := Lib.hid (get_good (cap := cS) HG1.out HS4.out HSS.out (by omega) hx)
  rw [hSl] at HC1
  go_wp2_with fail
  refine HC1.out.mono ?_
  rintro e w5 ⟨rfl, hb5⟩
  have HD5 := Lib.hid (HD4.out.below hb5 hb5.size)
  have HS5 := Lib.hid (HS4.out.below hb5 hb5.size)
  have HIN5 := Lib.hid (HIN4.out.below hb5 hb5.size)
  have HB5 := Lib.hid (HB4.out.trans (hb5.mono HB4.out.size))
  clear hb5 HD4 HS4 HIN4 HB4 HC1
  have HC2 := Lib.hid (get_no (cap := cD) HG2.out HD5.out HDS.out (by have := HK.out; omega) hx)
  rw [HK.out] at HC2
  go_wp2_with fail
  refine HC2.out.mono ?_
  rintro e w6 ⟨rfl, hb6⟩
  have HD6 := Lib.hid (HD5.out.below hb6 hb6.size)
  have HS6 := Lib.hid (HS5.out.below hb6 hb6.size)
  have HIN6 := Lib.hid (HIN5.out.below hb6 hb6.size)
  have HB6 := Lib.hid (HB5.out.trans (hb6.mono HB5.out.size))
  clear hb6 HD5 HS5 HIN5 HB5 HC2
  have HC3 := Lib.hid ((all_any S x aS cS w6 HS6.out HSS.out (by omega) hx).mono fun _ _ h => h.slice)
  rw [HA.out, hSl] at HC3
  go_wp2_with fail
  refine HC3.out.mono ?_
  rintro e w7 ⟨aA, cA, rfl, hf7, hb7⟩
  have HD7 := Lib.hid (HD6.out.below hb7 hb7.size)
  have HS7 := Lib.hid (HS6.out.below hb7 hb7.size)
  have HIN7 := Lib.hid (HIN6.out.below hb7 hb7.size)
  have HB7 := Lib.hid (HB6.out.trans (hb7.mono HB6.out.size))
  have hone : [y].length = 1 := rfl
  clear hf7 hb7 HD6 HS6 HIN6 HB6 HC3
  obtain ⟨bS, oS, rfl, _, _, hcS⟩ := HS7.out k (by omega)
  rw [HLAST.out (by omega)] at hcS
  go_wp2_with fail
  refine ((drop_any l x a cap n w7 HIN7.out HN.out HLS.out (by have := H20.out; omega) hx).mono fun _ _ h => h.slice).mono ?_
  rw [HDE.out]
  rintro e w8 ⟨a8, c8, rfl, hf8, hb8⟩
  rw [HK.out]
  have HE8 := Lib.hid hf8
  have HD8 := Lib.hid (HD7.out.below hb8 hb8.size)
  have HB8 := Lib.hid (HB7.out.trans (hb8.mono HB7.out.size))
  clear hf8 hb8 HD7 HS7 HIN7 HB7 hcS
  have HC4 := Lib.hid (fields_same D aD a8 cD c8 w8 HD8.out HE8.out (by have := HK.out; omega))
  rw [HK.out] at HC4
  go_wp2_with fail
  refine HC4.out.mono ?_
  rintro e w9 ⟨rfl, m9, rfl⟩
  have HD9 := Lib.hid (show FieldsIn (w8.drewN m9).heap.size (w8.drewN m9) aD D from HD8.out)
  have HB9 := Lib.hid (below_drewN HB8.out m9)
  clear HE8 HD8 HB8 HC4
  go_wp2_with fail
  refine ((drop_any D x aD cD k (w8.drewN m9) HD9.out HK.out.symm HDS.out (by have := HK.out; omega) hx).mono fun _ _ h => h.slice).mono ?_
  rw [HD2.out]
  rintro e w10 ⟨a10, c10, rfl, hf10, hb10⟩
  rw [HK.out]
  have HE10 := Lib.hid hf10
  have HD10 := Lib.hid (HD9.out.below hb10 hb10.size)
  have HB10 := Lib.hid (HB9.out.trans (hb10.mono HB9.out.size))
  clear hf10 hb10 HD9 HB9
  have HC5 := Lib.hid (fields_same D a10 aD c10 cD w10 HE10.out HD10.out (by have := HK.out; omega))
  rw [HK.out] at HC5
  go_wp2_with fail
  refine HC5.out.mono ?_
  rintro e w11 ⟨rfl, m11, rfl⟩
  have HB11 := Lib.hid (below_drewN HB10.out m11)
  clear HE10 HD10 HB10 HC5
  go_wp2
  go_ret
  exact ⟨rfl, HB11.out⟩
end Go.Proofs.YtckhjhgddnjfpaaDoor
