/-
  HeadBack.
-/
import Derived.Test.YtckhjhgddnjfpaaDoorHeadReads
namespace Go.Proofs.YtckhjhgddnjfpaaDoor
open Go.RowKit HeadMath

/-- A field's line without its end. -/
def textOf (f : ByteArray × ByteArray) : ByteArray := ⟨(f.1.data.toList ++ ([58, 32] ++ f.2.data.toList)).toArray⟩
def goodF (f : ByteArray × ByteArray) : Prop := tokenF f.1.data.toList = true ∧ valueF f.2.data.toList = true
theorem textOf_list (f : ByteArray × ByteArray) : (textOf f).data.toList = f.1.data.toList ++ ([58, 32] ++ f.2.data.toList) := rfl
theorem textOf_size (f : ByteArray × ByteArray) : (textOf f).size = f.1.size + 2 + f.2.size := by
  rw [← size_list, textOf_list, List.length_append, List.length_append, size_list, size_list]
  simp only [List.length_cons, List.length_nil]
  omega
theorem byteAt_list {s : ByteArray} {k : Nat} (h : k < s.size) : s.data.toList[k]? = some s[k] := by
  rw [List.getElem?_eq_getElem (by rw [size_list]; exact h)]; rfl
theorem sign_colon : signB 58 = false := by decide
theorem colon_text {f : ByteArray × ByteArray} (h : goodF f) : colonAt (textOf f) = (f.1.size : Int) := by
  have hsz := textOf_size f
  refine colon_is (by omega) ?_ (fun j hj hlt he => ?_)
  · have h1 := byteAt_list (s := textOf f) (k := f.1.size) (by omega)
    rw [textOf_list, List.getElem?_append_right (by rw [size_list]; exact Nat.le_refl _), size_list, Nat.sub_self] at h1
    exact (Option.some.inj h1).symm
  · have h1 := byteAt_list hj
    rw [textOf_list, List.getElem?_append_left (by rw [size_list]; exact hlt), he] at h1
    have h2 : (58 : UInt8) ∈ f.1.data.toList := List.mem_of_getElem? h1
    have h3 := h.1
    unfold tokenF at h3
    simp only [Bool.and_eq_true, List.all_eq_true] at h3
    have := h3.1 58 h2
    rw [sign_colon] at this
    cases this
theorem value_bare {x : List UInt8} (h : valueF x = true) : Bare x := by
  unfold valueF at h
  simp only [Bool.and_eq_true, beq_iff_eq] at h
  exact (eq_trimF x).1 h.2
theorem fieldOf_text {f : ByteArray × ByteArray} (h : goodF f) : fieldOf (textOf f) = some f := by
  have hsz := textOf_size f
  have h1 : (textOf f).extract 0 f.1.size = f.1 := by
    apply data_inj
    rw [Lib.extract_data, textOf_list, List.drop_zero]
    rw [List.take_append_of_le_length (by rw [size_list]; omega), List.take_of_length_le (by rw [size_list]; omega)]
  have h2 : (textOf f).extract (f.1.size + 1) (textOf f).size = ⟨(32 :: f.2.data.toList).toArray⟩ := by
    apply data_inj
    rw [Lib.extract_data, textOf_list, List.take_of_length_le (by rw [List.length_drop, List.length_append, List.length_append, size_list, size_list]; simp only [List.length_cons, List.length_nil]; omega)]
    rw [List.drop_append, List.drop_eq_nil_of_le (by rw [size_list]; omega), size_list, show f.1.size + 1 - f.1.size = 1 by omega]
    rfl
  have h3 : (⟨(trimF (⟨(32 :: f.2.data.toList).toArray⟩ : ByteArray).data.toList).toArray⟩ : ByteArray) = f.2 := by
    apply data_inj
    show trimF (32 :: f.2.data.toList) = f.2.data.toList
    have := trimF_of (u := [32]) (v := []) (x := f.2.data.toList) (by decide) (by decide) (value_bare h.2)
    simpa using this
  rw [fieldOf_named (colon_text h) h1 h2 h3, if_pos ⟨h.1, h.2⟩]
theorem parseF_text : ∀ (l : Fs), (∀ f ∈ l, goodF f) → parseF (l.map textOf) = some l
  | [], _ => rfl
  | f :: l, h => by
    rw [List.map_cons, parseF, fieldOf_text (h f (List.mem_cons_self ..))]
    simp only [parseF_text l (fun g hg => h g (List.mem_cons_of_mem _ hg))]
theorem parseR_text (l : Fs) (hl : l.length ≤ 100) (h : ∀ f ∈ l, goodF f) : parseR (l.map textOf) = (l, 0) := by
  unfold parseR
  rw [if_neg (by rw [List.length_map]; omega), parseF_text l h]
def tailOf (l : Fs) (k : Nat) : ByteArray := ⟨(linesF (l.drop k)).toArray⟩
theorem tail_list {l : Fs} {k : Nat} (h : k < l.length) : (tailOf l k).data.toList = (textOf l[k]).data.toList ++ ([13, 10] ++ (tailOf l (k + 1)).data.toList) := by
  show linesF (l.drop k) = _
  rw [List.drop_eq_getElem_cons h]
  show lineF l[k] ++ linesF (l.drop (k + 1)) = _
  rw [textOf_list]
  unfold lineF
  simp only [List.append_assoc]
  rfl
theorem tail_facts {l : Fs} {k n : Nat} (h : k < l.length) (hn : (textOf l[k]).size = n) :
    (tailOf l k).size = n + 2 + (tailOf l (k + 1)).size ∧ (tailOf l k).extract n (n + 2) = ⟨#[13, 10]⟩ ∧ (tailOf l k).extract 0 n = textOf l[k] ∧ (tailOf l k).extract (n + 2) (tailOf l k).size = tailOf l (k + 1) := by
  have e := tail_list h
  have hz : (tailOf l k).size = n + 2 + (tailOf l (k + 1)).size := by
    rw [← size_list, e, List.length_append, List.length_append, size_list, size_list, hn]
    simp only [List.length_cons, List.length_nil]; omega
  have hl : (textOf l[k]).data.toList.length = n := by rw [size_list, hn]
  refine ⟨hz, ?_, ?_, ?_⟩
  · apply data_inj
    rw [Lib.extract_data, e, List.drop_append, List.drop_eq_nil_of_le (by omega), hl, Nat.sub_self, show n + 2 - n = 2 by omega]
    rfl
  · apply data_inj
    rw [Lib.extract_data, e, List.drop_zero, Nat.sub_zero, List.take_append_of_le_length (by omega), List.take_of_length_le (by omega)]
  · apply data_inj
    rw [Lib.extract_data, e, List.drop_append, List.drop_eq_nil_of_le (by omega), hl, show n + 2 - n = 2 by omega]
    rw [List.take_of_length_le (by rw [hz]; simp)]
    rfl

structure Backed (w0 : World) (l : Fs) (k : Nat) (v : Value) (wr : World) : Prop where
  own : OwnStrs w0.heap.size wr v ((l.take k).map textOf)
  since : Below w0.heap.size w0 wr
  good : ∀ j (h : j < l.length), j < k → goodF l[j]
set_option maxRecDepth 100000 in
set_option maxHeartbeats 4000000 in
theorem back_any (l : Fs) (a : Option Addr) (cap n : Nat) (w : World) (hin : FieldsIn w.heap.size w a l) (hN : n = l.length) (hle : l.length ≤ maxLen) (hsz : ∀ j (h : j < l.length), (l[j]).1.size ≤ maxLen ∧ (l[j]).2.size ≤ maxLen) :
    Calls Tryd.prog 7 #[.slice a n cap] w (SetsPost w) := by
  unfold maxLen at hle hsz
  have HIN := Lib.hid hin
  have HN := Lib.hid hN
  have HSZ := Lib.hid hsz
  have hn63 : n < 9223372036854775808 := by omega
  clear hin hN hsz hle
  go_enter Tryd.func7, Tryd.ntmps7
  go_wp2_with fail
  refine (known_any _).mono ?_
  rintro e w1 ⟨rfl, hb1⟩
  have HIN1 := Lib.hid (HIN.out.below hb1 hb1.size)
  have HB1 := Lib.hid hb1
  clear hb1
  go_wp2_with fail
  refine (light_any l a cap n 20 w1 HIN1.out HN.out hn63 (by omega) HSZ.out).mono ?_
  rintro e w2 ⟨lit, rfl, rfl, hlit⟩
  cases lit with
  | false =>
    clear hlit
    go_wp2
    go_ret
    exact ⟨rfl, HB1.out⟩
  | true =>
  obtain ⟨h20, hl⟩ := hlit rfl
  have hn20 : n ≤ 20 := by rw [HN.out]; exact h20
  have HL := Lib.hid hl
  clear hlit hl h20
  have HC := Lib.hid (lines_any l a cap w2 HIN1.out (by have := HN.out; omega) (fun j h => by have := HL.out j h; omega))
  rw [← HN.out] at HC
  go_wp2_with fail
  refine HC.out.mono ?_
  rintro e w3 ⟨rfl, hb3⟩
  have HIN3 := Lib.hid (HIN1.out.below hb3 hb3.size)
  have HB3 := Lib.hid (HB1.out.trans (hb3.mono HB1.out.size))
  have ht0 : (⟨(linesF l).toArray⟩ : ByteArray) = tailOf l 0 := by unfold tailOf; rw [List.drop_zero]
  rw [ht0]
  clear hb3 HIN1 HB1 HC ht0
  obtain ⟨s0, hs0⟩ : ∃ s0, tailOf l 0 = s0 := ⟨_, rfl⟩
  rw [hs0]
  have HS0 := Lib.hid hs0
  clear hs0
  go_wp2
  go_loopw [3, 4, 5] (fun v sv i wr => ∃ (k : Nat) (s : ByteArray), k ≤ n ∧ i = .int .i64 k ∧ sv = .string s ∧ Hid (tailOf l k = s) ∧ Hid (Backed w l k v wr)) (fun _ _ i _ => n - (intOf i).toNat)
  case atStart => exact ⟨0, s0, Nat.zero_le _, rfl, rfl, HS0, Lib.hid ⟨World.ownsRow_nil _ _ _ _, HB3.out, fun j _ h => absurd h (Nat.not_lt_zero _)⟩⟩
  case round =>
    obtain ⟨k, s, hk, rfl, rfl, HS, HB⟩ := hrel
    by_cases hlt : k < n
    · have hlt2 : k < l.length := by have := HN.out; omega
      obtain ⟨b, off, rfl, hbl, hc1, hc2⟩ := HIN.out k hlt2
      have hs1 := HL.out k hlt2
      have x0 := (HB.out.since.cell (p := ⟨b, off + k * 2, none⟩) hbl).trans hc1
      have x1 := (HB.out.since.cell (p := ⟨b, off + k * 2 + 1, none⟩) hbl).trans hc2
      have hts := textOf_size l[k]
      obtain ⟨n2, hn2⟩ : ∃ m, (textOf l[k]).size = m := ⟨_, rfl⟩
      obtain ⟨t1, t2, t3, t4⟩ := tail_facts hlt2 hn2
      obtain ⟨nm, vl, hf⟩ : ∃ nm vl, l[k] = (nm, vl) := ⟨_, _, rfl⟩
      have HF := Lib.hid hf
      rw [hn2] at hts
      rw [HS.out] at t1 t2 t3 t4
      obtain ⟨tx, htx⟩ : ∃ t, textOf l[k] = t := ⟨_, rfl⟩
      obtain ⟨s', hs'⟩ : ∃ t, tailOf l (k + 1) = t := ⟨_, rfl⟩
      rw [htx] at t3
      rw [hs'] at t1 t4
      have HTX := Lib.hid htx
      have HS' := Lib.hid hs'
      simp only [hf] at x0 x1 hs1 hts
      have i1 : (k : Int) < (n : Int) := by omega
      clear hc1 hc2 hf hn2 htx hs'
      cases ht : tokenF nm.data.toList with
      | false =>
        have HT := Lib.hid ht
        clear ht t1 t2 t3 t4 hts
        go_wp2_with fail
        refine (refToken_any nm _ (by omega)).mono ?_
        rintro e w4 ⟨rfl, rfl⟩
        rw [HT.out]
        go_wp2
        go_ret
        exact ⟨rfl, HB.out.since⟩
      | true =>
        have HT := Lib.hid ht
        clear ht
        cases hv : valueF vl.data.toList with
        | false =>
          have HV := Lib.hid hv
          clear hv t1 t2 t3 t4 hts
          go_wp2_with fail
          refine (refToken_any nm _ (by omega)).mono ?_
          rintro e w4 ⟨rfl, rfl⟩
          rw [HT.out]
          go_wp2_with fail
          refine (refValue_any vl _ (by omega)).mono ?_
          rintro e w4 ⟨rfl, rfl⟩
          rw [HV.out]
          go_wp2
          go_ret
          exact ⟨rfl, HB.out.since⟩
        | true =>
          have HV := Lib.hid hv
          have q1 : IntKind.i64.wrap ((nm.size : Int) + 2) = (nm.size : Int) + 2 := IntWalk.i64_in _ (by omega)
          have q2 : IntKind.i64.wrap ((nm.size : Int) + 2 + (vl.size : Int)) = (n2 : Int) := by rw [IntWalk.i64_in _ (by omega)]; omega
          have hz1 : n2 ≤ 602 := by omega
          have HT1 := Lib.hid t1
          have i2 : ¬ (s.size : Int) < (n2 : Int) + 2 := by omega
          have i3 : (n2 : Int) + 2 ≤ (s.size : Int) := by omega
          have i4 : n2 + 2 ≤ s.size := by omega
          have i5 : n2 ≤ s.size := by omega
          clear hv hts t1
          go_wp2_with fail
          refine (refToken_any nm _ (by omega)).mono ?_
          rintro e w4 ⟨rfl, rfl⟩
          rw [HT.out]
          go_wp2_with fail
          refine (refValue_any vl _ (by omega)).mono ?_
          rintro e w4 ⟨rfl, rfl⟩
          rw [HV.out]
          go_wp2
          refine wp_region_quiet_lit (by kernel_rfl) (by kernel_rfl) ?_
          repeat (go_big_quiet_step (fail))
          refine wpQuiet_nil ?_
          rintro w5 ⟨nq, hw5⟩
          have HB5 : Hid (Backed w l k u3 w5) := Lib.hid (by rw [hw5]; exact ⟨ownsRow_drewN HB.out.own nq, below_drewN HB.out.since nq, HB.out.good⟩)
          have HO := Lib.hid (show OwnStrs w.heap.size (w5.alloc (.cells #[.string tx] 9)) u3 ((l.take k).map textOf) from HB5.out.own.alloc _)
          have HS1 := Lib.hid (strsIn_one w5 9 tx)
          have HB2 := Lib.hid (HB5.out.since.alloc (o := .cells #[.string tx] 9) HB5.out.since.size)
          have HLEN := Lib.hid (show ((l.take k).map textOf).length + [tx].length ≤ 1000000000000 by have := HN.out; simp; omega)
          clear hw5 x0 x1 q1 q2
          go_wp2_with (at_builtin; refine wpList_append_strs rfl _ _ rfl w.heap.size (w5.alloc (.cells #[.string tx] 9)).heap.size u3 ((l.take k).map textOf) rfl HO.out HB2.out.size (some ⟨w5.heap.size, 0, none⟩) 1 1 [tx] rfl rfl HS1.out (fun e => by cases e) HLEN.out ?_)
          intro v6 w6 ho6 hg6
          have HR6 : Hid (Backed w l (k + 1) v6 w6) := Lib.hid ⟨by
            rw [List.take_succ_eq_append_getElem hlt2, List.map_append, List.map_cons, List.map_nil, HTX.out]; simpa using ho6,
            HB2.out.grown hg6 HB2.out.size (fun g hg => (World.ownsRow.lt HO.out g hg).1), fun j hj hjk => by
              by_cases e : j = k
              · subst e; rw [HF.out]; exact ⟨HT.out, HV.out⟩
              · exact HB5.out.good j hj (by omega)⟩
          clear ho6 hg6 HO HS1 HB2 HB5 HB
          go_wp2
          go_roundw
          case rel => exact ⟨k + 1, s', by omega, by go_num, congrArg Value.string t4, HS', HR6⟩
          case measure => simp [intOf]; omega
    · obtain rfl : k = n := by omega
      have hle : s.size = 0 := by
        rw [← HS.out]
        unfold tailOf
        rw [List.drop_eq_nil_of_le (by have := HN.out; omega)]
        rfl
      have qe := isEmpty_yes hle
      have hgood : ∀ f ∈ l, goodF f := fun f hf => by
        obtain ⟨j, hj, rfl⟩ := List.getElem_of_mem hf
        exact HB.out.good j hj (by have := HN.out; omega)
      have hown := HB.out.own
      rw [List.take_of_length_le (by have := HN.out; omega)] at hown
      obtain ⟨ax, cx, rfl, hinx, _⟩ := OwnStrs.shape hown
      have hpr := parseR_text l (by have := HN.out; omega) hgood
      obtain ⟨X, hX⟩ : ∃ X, l.map textOf = X := ⟨_, rfl⟩
      have hsx : ∀ x ∈ X, x.size ≤ 602 := fun x hx => by
        rw [← hX] at hx
        obtain ⟨f, hf, rfl⟩ := List.mem_map.1 hx
        obtain ⟨j, hj, rfl⟩ := List.getElem_of_mem hf
        have h1 := HL.out j hj
        rw [textOf_size]; omega
      have hxl : X.length = k := by rw [← hX, List.length_map]; exact HN.out.symm
      rw [hX] at hinx hpr ⊢
      have HC := Lib.hid ((parse_some X ax cx wr hinx (small_of _ (fun x hx => by have := hsx x hx; omega)) (by omega)).mono fun _ _ h => h.slice)
      rw [hpr, hxl] at HC
      rw [hxl]
      have HBS := Lib.hid HB.out.since
      clear hle hgood hown hinx hpr hX hsx hxl HB
      go_wp2_with fail
      refine HC.out.mono ?_
      rintro e w5 ⟨a5, c5, rfl, hf5, hb5⟩
      simp only
      have HF5 := Lib.hid hf5
      have HB5 := Lib.hid (HBS.out.trans (hb5.mono HBS.out.size))
      have HFS := Lib.hid (fields_same l a5 a c5 cap w5 hf5 (HIN.out.below HB5.out HB5.out.size) (by have := HN.out; omega))
      rw [← HN.out] at HFS ⊢
      clear hf5 hb5 HC HBS
      go_wp2_with fail
      refine HFS.out.mono ?_
      rintro e w6 ⟨rfl, m6, rfl⟩
      have HB6 := Lib.hid (below_drewN HB5.out m6)
      go_wp2
      go_ret
      exact ⟨rfl, HB6.out⟩
end Go.Proofs.YtckhjhgddnjfpaaDoor
