/-
  CtrlWrites' walk.
  Parts in any order, in one field or in many, say the same.
  CtrlOrder's parts.
  What CtrlOrder's and CtrlCase's walks share: rows of texts and of fields in memory.
  A field's normal form: its values joined, each run of blanks one space; in the program.
  A field's normal form in the reference.
  A change of letters' case: what the parts say stays.
  Rows of CtrlCase: two rows of fields beside one another; a row of bytes whose letters are made great, one by one.
-/
import Derived.Deep.RegionHeld3
import Derived.Test.YtkpkpfolgbpjbaaDoorMg5
import Derived.Test.YtkpkpfolgbpjbaaDoorMg12
import Derived.Test.YtkpkpfolgbpjbaaDoorMg13
import Derived.Test.YtkpkpfolgbpjbaaDoorMg18
import Derived.Test.YtkpkpfolgbpjbaaDoorMg20
namespace Go.Proofs.YtkpkpfolgbpjbaaDoor
open Go.RowKit HeadMath HeadS

def numsL (c : Ctl) : List Int := [c.maxA, c.sMax, c.minF, c.maxS]
theorem nums_fair {c : Ctl} (h : ∀ j (hj : j < (numsL c).length), -1 ≤ (numsL c)[j] ∧ (numsL c)[j] ≤ 2147483647) : c.fair :=
  ⟨h 0 (by show 0 < 4; omega), h 1 (by show 1 < 4; omega), h 2 (by show 2 < 4; omega), h 3 (by show 3 < 4; omega)⟩
theorem nums_at {w : World} {c : Ctl} {k : Nat} (hk : k < (numsL c).length) : (w.alloc (.cells #[.int .i64 c.maxA, .int .i64 c.sMax, .int .i64 c.minF, .int .i64 c.maxS] 2)).cell? ⟨w.heap.size, k, none⟩ = some (.int .i64 (numsL c)[k]) := by
  have e := heap_alloc_new w (.cells #[.int .i64 c.maxA, .int .i64 c.sMax, .int .i64 c.minF, .int .i64 c.maxS] 2)
  rw [Lib.cell_of_heap e]
  have h4 : (numsL c).length = 4 := rfl
  match k, hk with
  | 0, _ => rfl
  | 1, _ => rfl
  | 2, _ => rfl
  | 3, _ => rfl
  | k + 4, hk => omega
theorem few_one {t : ByteArray} (h : t.size ≤ 1000000) : FewF [(cacheL, t)] := by
  refine ⟨by show 1 ≤ 100000; omega, fun j hj => ?_⟩
  obtain rfl : j = 0 := by simpa using hj
  exact ⟨by show cacheL.size ≤ 1000000; decide, h⟩
set_option maxRecDepth 100000 in
set_option maxHeartbeats 16000000 in
theorem writes_any (c : Ctl) (w : World) (hc : c.wide) (ht : TabW w) (hw : 1 < w.heap.size) : Calls Tryd.prog 3 #[ctlV c] w (Yes w) := by
  obtain ⟨w0, hw0⟩ : ∃ w0, w.alloc (.cells #[.bool c.noStore, .bool c.noCache, .bool c.priv, .bool c.pub, .bool c.must, .bool c.prox, .bool c.only, .bool c.anyStale, .int .i64 c.maxA, .int .i64 c.sMax, .int .i64 c.minF, .int .i64 c.maxS] 23) = w0 := ⟨_, rfl⟩
  have hb0 : Below w.heap.size w w0 := by rw [← hw0]; exact ((Spares.refl nowhere w).alloc _).below0
  have hz0 : w0.heap.size = w.heap.size + 1 := by rw [← hw0]; simp
  have hc0 : CtlAt w0 w.heap.size c := by
    unfold CtlAt
    rw [← hw0]
    exact heap_alloc_new w _
  have HK : Hid (∀ x, Below w0.heap.size w0 x → (CtlAt x w.heap.size c ∧ TabW x ∧ 1 < x.heap.size) ∧ Below w.heap.size w x) := Lib.hid (fun x hx => by
    have hbx := hb0.trans (hx.mono (by omega))
    exact ⟨⟨(hx.block _ (by omega)).trans hc0, ht.below hbx, by have := hbx.size; omega⟩, hbx⟩)
  have HW0 := Lib.hid hw0
  have HCW := Lib.hid hc
  have hx0 := HK.out w0 (Below.refl _ _)
  have HX0 := Lib.hid hx0
  obtain ⟨t, htx⟩ : ∃ t : ByteArray, (⟨(textF c).toArray⟩ : ByteArray) = t := ⟨_, rfl⟩
  have HTX : Hid (t = outB (itemsF c)) := Lib.hid htx.symm
  have htz : t.size ≤ 1488 := by
    have := text_len c
    rw [← htx]
    show (textF c).toArray.size ≤ 1488
    simpa using this
  have cT := fun x hx => text_any c x hc (HK.out x hx).1.2.1 (HK.out x hx).1.2.2
  have cR := fun x => refText_any c x
  unfold TextPost at cT cR
  simp only [htx] at cT cR
  have CT := Lib.hid cT
  have CR := Lib.hid cR
  have hself : (t.toList == t.toList) = true := beq_self_eq_true _
  have HNUM := Lib.hid (fun (x : World) (k : Nat) (hk : k < (numsL c).length) => nums_at (w := x) hk)
  clear hw0 hb0 hz0 hc0 hc ht hw hx0 htx cT cR
  unfold ctlV at CT CR ⊢
  unfold Yes
  go_enter Tryd.func3, Tryd.ntmps3
  go_wp2_with fail
  change Calls _ _ _ (w.alloc (.cells #[.bool c.noStore, .bool c.noCache, .bool c.priv, .bool c.pub, .bool c.must, .bool c.prox, .bool c.only, .bool c.anyStale, .int .i64 c.maxA, .int .i64 c.sMax, .int .i64 c.minF, .int .i64 c.maxS] 23)) _
  rw [HW0.out]
  refine (known_any w0 HX0.out.1.2.1 HX0.out.1.2.2).mono ?_
  rintro e w1 ⟨rfl, hb1⟩
  have HB1 := Lib.hid hb1
  obtain ⟨n0, n1, n2, n3, n4, n5, n6, n7, n8, n9, n10, n11⟩ := ctl_reads (HK.out w1 hb1).1.1
  clear hb1
  go_wp2_with fail
  refine (CT.out w1 HB1.out).mono ?_
  rintro e w2 ⟨rfl, hb2⟩
  have HB2 := Lib.hid (HB1.out.trans (hb2.mono HB1.out.size))
  clear n0 n1 n2 n3 n4 n5 n6 n7 n8 n9 n10 n11 hb2
  obtain ⟨n0, n1, n2, n3, n4, n5, n6, n7, n8, n9, n10, n11⟩ := ctl_reads (HK.out w2 HB2.out).1.1
  go_wp2_with fail
  refine (CR.out w2).mono ?_
  rintro e w3 ⟨rfl, hb3⟩
  have HB3 := Lib.hid (HB2.out.trans (hb3.mono HB2.out.size))
  clear n0 n1 n2 n3 n4 n5 n6 n7 n8 n9 n10 n11 hb3
  have hk3 := HK.out w3 HB3.out
  obtain ⟨n0, n1, n2, n3, n4, n5, n6, n7, n8, n9, n10, n11⟩ := ctl_reads hk3.1.1
  obtain ⟨v, hv⟩ : ∃ v, w3.alloc (.cells #[.int .i64 c.maxA, .int .i64 c.sMax, .int .i64 c.minF, .int .i64 c.maxS] 2) = v := ⟨_, rfl⟩
  have hbv : Below w0.heap.size w0 v := by rw [← hv]; exact HB3.out.alloc HB3.out.size _
  have hnv : ∀ k (hk : k < (numsL c).length), v.cell? ⟨w3.heap.size, k, none⟩ = some (.int .i64 (numsL c)[k]) := fun k hk => by rw [← hv]; exact HNUM.out w3 k hk
  have HNV := Lib.hid hnv
  have HV := Lib.hid hv
  have HBV := Lib.hid hbv
  obtain ⟨ns, hns⟩ : ∃ ns, numsL c = ns := ⟨_, rfl⟩
  have hn4 : ns.length = 4 := by rw [← hns]; rfl
  have HFAIR : Hid ((∀ j (hj : j < ns.length), -1 ≤ ns[j] ∧ ns[j] ≤ 2147483647) → c.fair) := Lib.hid (by subst hns; exact nums_fair)
  rw [hns] at HNV
  clear hv hbv hnv hk3 hns HNUM
  go_wp2
  change Code.wp _ _ _ _ (w3.alloc (.cells #[.int .i64 c.maxA, .int .i64 c.sMax, .int .i64 c.minF, .int .i64 c.maxS] 2))
  rw [HV.out]
  clear n0 n1 n2 n3 n4 n5 n6 n7 n8 n9 n10 n11
  go_loop [5] (fun i => ∃ k : Nat, k ≤ 4 ∧ i = .int .i64 k ∧ Hid (∀ j (hj : j < ns.length), j < k → -1 ≤ ns[j] ∧ ns[j] ≤ 2147483647)) (fun i => 4 - (intOf i).toNat)
  case atStart => exact ⟨0, by omega, rfl, Lib.hid (fun j _ h => absurd h (Nat.not_lt_zero _))⟩
  case round =>
    obtain ⟨k, hk, rfl, HA⟩ := hrel
    by_cases hk4 : k < 4
    · have hkl : k < ns.length := by omega
      have x0 := HNV.out k hkl
      obtain ⟨n, hn⟩ : ∃ n, ns[k] = n := ⟨_, rfl⟩
      rw [hn] at x0
      by_cases h1 : n < -1
      · have HF := Lib.hid (HK.out v HBV.out).2
        go_wp2
        go_ret
        exact ⟨rfl, HF.out⟩
      · by_cases h2 : 2147483647 < n
        · have HF := Lib.hid (HK.out v HBV.out).2
          go_wp2
          go_ret
          exact ⟨rfl, HF.out⟩
        · have HN : Hid (∀ j (hj : j < ns.length), j < k + 1 → -1 ≤ ns[j] ∧ ns[j] ≤ 2147483647) := Lib.hid (fun j hj hjk => by
            rcases Nat.lt_or_ge j k with h | h
            · exact HA.out j hj h
            · obtain rfl : j = k := by omega
              rw [hn]
              exact ⟨by omega, by omega⟩)
          clear hn
          go_wp2
          go_round
          case rel => exact ⟨k + 1, by omega, by go_num, HN⟩
          case measure => simp [intOf]; omega
    · have hfair := HFAIR.out (fun j hj => HA.out j hj (by omega))
      have HPB := Lib.hid (parse_back hfair t HTX.out)
      have HFV := Lib.hid (HK.out v HBV.out)
      clear hfair
      cases hte : t.toList.isEmpty with
      | true =>
        go_wp2
        go_ret
        exact ⟨rfl, HFV.out.2⟩
      | false =>
        have s0 := ctl_reads (HK.out v.drew HBV.out.drew).1.1
        go_wp2
        have hlt : w.heap.size < v.heap.size := (Array.getElem?_eq_some_iff.1 HFV.out.1.1).1
        have cP := fun x (hx : Below v.heap.size v x) (hin : FieldsIn x.heap.size x (some ⟨v.heap.size, 0, none⟩) [(cacheL, t)]) => parse_any [(cacheL, t)] (some ⟨v.heap.size, 0, none⟩) 1 x hin (few_one (by omega))
        unfold ParsePost at cP
        rw [HPB.out] at cP
        have CP := Lib.hid cP
        have hin : FieldsIn (v.alloc (.cells #[.string cacheL, .string t] 29)).drew.heap.size (v.alloc (.cells #[.string cacheL, .string t] 29)).drew (some ⟨v.heap.size, 0, none⟩) [(cacheL, t)] := by
          have := k_fields v cacheL t
          intro j hj
          obtain ⟨b, off, h1, h2, h3, h4⟩ := this j hj
          exact ⟨b, off, h1, by show b < (v.alloc _).heap.size; simp; omega, h3, h4⟩
        have hbd : Below v.heap.size v (v.alloc (.cells #[.string cacheL, .string t] 29)).drew := ((Below.refl _ v).alloc (Nat.le_refl _) _).drew
        have CPX := Lib.hid (CP.out _ hbd hin)
        have HBD := Lib.hid hbd
        have s1 := ctl_reads (HK.out _ (HBV.out.trans (hbd.mono HBV.out.size))).1.1
        clear cP hin hbd
        unfold ctlV at CPX
        go_region_held3 (fun w' => w'.cell? ⟨w.heap.size, 0, none⟩ = some (.bool c.noStore) ∧ w'.cell? ⟨w.heap.size, 1, none⟩ = some (.bool c.noCache) ∧ w'.cell? ⟨w.heap.size, 2, none⟩ = some (.bool c.priv) ∧ w'.cell? ⟨w.heap.size, 3, none⟩ = some (.bool c.pub) ∧ w'.cell? ⟨w.heap.size, 4, none⟩ = some (.bool c.must) ∧ w'.cell? ⟨w.heap.size, 5, none⟩ = some (.bool c.prox) ∧ w'.cell? ⟨w.heap.size, 6, none⟩ = some (.bool c.only) ∧ w'.cell? ⟨w.heap.size, 7, none⟩ = some (.bool c.anyStale) ∧ w'.cell? ⟨w.heap.size, 8, none⟩ = some (.int .i64 c.maxA) ∧ w'.cell? ⟨w.heap.size, 9, none⟩ = some (.int .i64 c.sMax) ∧ w'.cell? ⟨w.heap.size, 10, none⟩ = some (.int .i64 c.minF) ∧ w'.cell? ⟨w.heap.size, 11, none⟩ = some (.int .i64 c.maxS)) (first | exact s2 | exact s1 | exact s0 | go_keep)
          (first
            | (go_simp
               go_at_call 13
               refine CPX.out.mono ?_
               rintro e w5 ⟨rfl, hb5⟩
               have HB5 := Lib.hid (HBV.out.trans ((HBD.out.trans (hb5.mono HBD.out.size)).mono HBV.out.size))
               have s2 := ctl_reads (HK.out w5 HB5.out).1.1))
        all_goals
          have hfin := (HK.out w5 HB5.out).2
          clear s0 s1 s2
          go_wp2
          go_ret
          exact ⟨rfl, hfin⟩
end Go.Proofs.YtkpkpfolgbpjbaaDoor
namespace Go.Proofs.YtkpkpfolgbpjbaaDoor
open Go.RowKit HeadMath HeadS

theorem least_comm {o a b : Int} (ha : 0 ≤ a) (hb : 0 ≤ b) : leastF (leastF o a) b = leastF (leastF o b) a := by
  unfold leastF
  repeat' split
  all_goals omega
/-- The four numbers and the eight flags, each by itself. -/
theorem act_comm {k k' : Nat} {h h' : Bool} {n n' : Int} (hn : 0 ≤ n) (hn' : 0 ≤ n') (c : Ctl) : actK k h n (actK k' h' n' c) = actK k' h' n' (actK k h n c) := by
  have L := @least_comm
  match k, k' with
  | 0, 0 | 0, 1 | 0, 2 | 0, 3 | 0, 4 | 0, 5 | 0, 6 | 0, 7 | 0, 8 | 0, 9 => rfl
  | 1, 0 | 1, 1 | 1, 2 | 1, 3 | 1, 4 | 1, 5 | 1, 6 | 1, 7 | 1, 8 | 1, 9 => rfl
  | 2, 0 | 2, 1 | 2, 2 | 2, 3 | 2, 4 | 2, 5 | 2, 6 | 2, 7 | 2, 8 | 2, 9 => rfl
  | 3, 0 | 3, 1 | 3, 2 | 3, 3 | 3, 4 | 3, 5 | 3, 6 | 3, 7 | 3, 8 | 3, 9 => rfl
  | 4, 0 | 4, 1 | 4, 2 | 4, 3 | 4, 4 | 4, 5 | 4, 6 | 4, 7 | 4, 8 | 4, 9 => rfl
  | 5, 0 | 5, 1 | 5, 2 | 5, 3 | 5, 4 | 5, 5 | 5, 6 | 5, 7 | 5, 8 | 5, 9 => rfl
  | 6, 0 | 6, 1 | 6, 2 | 6, 3 | 6, 4 | 6, 5 | 6, 6 | 6, 7 | 6, 8 | 6, 9 => rfl
  | 7, 0 | 7, 1 | 7, 2 | 7, 3 | 7, 4 | 7, 5 | 7, 6 | 7, 8 | 7, 9 => rfl
  | 8, 0 | 8, 1 | 8, 2 | 8, 3 | 8, 4 | 8, 5 | 8, 6 | 8, 7 | 8, 9 => rfl
  | 9, 0 | 9, 1 | 9, 2 | 9, 3 | 9, 4 | 9, 5 | 9, 6 | 9, 7 | 9, 8 => rfl
  | 7, 7 => simp only [actK]; rw [L hn' hn]
  | 8, 8 => simp only [actK]; rw [L hn' hn]
  | 9, 9 => simp only [actK]; rw [L hn' hn]
  | 10, 0 | 10, 1 | 10, 2 | 10, 3 | 10, 4 | 10, 5 | 10, 6 | 10, 7 | 10, 8 | 10, 9 => cases h <;> rfl
  | 0, 10 | 1, 10 | 2, 10 | 3, 10 | 4, 10 | 5, 10 | 6, 10 | 7, 10 | 8, 10 | 9, 10 => cases h' <;> rfl
  | 10, 10 =>
    cases h <;> cases h'
    · rfl
    · rfl
    · rfl
    · simp only [actK, if_true]; rw [L hn' hn]
  | k + 11, k' => rfl
  | k, k' + 11 => rfl
theorem say_comm (c : Ctl) (a b : ByteArray) : sayF (sayF c a) b = sayF (sayF c b) a := act_comm (valSec_in _).1 (valSec_in _).1 c
theorem fold_perm {l m : List ByteArray} (h : l.Perm m) : ctlL l = ctlL m := by
  unfold ctlL
  generalize ctl0 = c
  induction h generalizing c with
  | nil => rfl
  | cons x _ ih => exact ih _
  | swap x y l => show l.foldl sayF (sayF (sayF c y) x) = l.foldl sayF (sayF (sayF c x) y); rw [say_comm]
  | trans _ _ ih1 ih2 => exact (ih1 c).trans (ih2 c)
/-- A part that a list takes as it stands. -/
def PartC (x : ByteArray) : Prop := x.data.toList ≠ [] ∧ Closed x.data.toList ∧ Bare x.data.toList
theorem told_part {x : ByteArray} (h : PartC x) : told (arr x.data.toList) = [x] := by
  have e : arr x.data.toList = x := rfl
  rw [e]
  unfold told
  rw [if_neg]
  intro h0
  rw [← size_list] at h0
  exact h.1 (List.eq_nil_of_length_eq_zero h0)
/-- The parts behind the first, each with a space and a comma ahead. -/
def tailO : List ByteArray → List UInt8
  | [] => []
  | y :: r => [32, 44] ++ (y.data.toList ++ tailO r)
def joinO : List ByteArray → List UInt8
  | [] => []
  | x :: r => x.data.toList ++ tailO r
theorem parts_order : ∀ (r : List ByteArray) (x : ByteArray), PartC x → (∀ y ∈ r, PartC y) → partsF (arr (x.data.toList ++ tailO r)) = x :: r
  | [], x, hx, _ => by
    show partsF (arr (x.data.toList ++ [])) = _
    have ht := trimF_of (u := []) (x := x.data.toList) (v := []) (fun c h => by cases h) (fun c h => by cases h) hx.2.2
    rw [List.nil_append, List.append_nil] at ht
    rw [parts_step _ [] [] hx.2.1 (.inl ⟨rfl, rfl⟩), ht, told_part hx, partsF_nil (v := arr []) rfl]
    rfl
  | y :: r, x, hx, hr => by
    have ht := trimF_of (u := []) (x := x.data.toList) (v := [32]) (fun c h => by cases h) (by decide) hx.2.2
    rw [List.nil_append] at ht
    have hc : Closed (x.data.toList ++ [32]) := Closed.append hx.2.1 (plain_closed rfl)
    have e : x.data.toList ++ tailO (y :: r) = (x.data.toList ++ [32]) ++ 44 :: (y.data.toList ++ tailO r) := by simp [tailO]
    rw [e, parts_step _ _ _ hc (.inr rfl), ht, told_part hx, parts_order r y (hr y (by simp)) (fun z hz => hr z (by simp [hz]))]
    rfl
theorem parts_joinO : ∀ (l : List ByteArray), (∀ y ∈ l, PartC y) → partsF (arr (joinO l)) = l
  | [], _ => partsF_nil (v := arr []) rfl
  | x :: r, h => parts_order r x (h x (by simp)) (fun z hz => h z (by simp [hz]))
theorem parts_one {x : ByteArray} (h : PartC x) : partsF x = [x] := by
  have := parts_order [] x h (fun _ h => by cases h)
  rwa [show tailO [] = [] from rfl, List.append_nil] at this
theorem tailO_snoc : ∀ (r : List ByteArray) (y : ByteArray), tailO (r ++ [y]) = tailO r ++ ([32, 44] ++ y.data.toList)
  | [], y => by simp [tailO]
  | x :: r, y => by rw [List.cons_append, tailO, tailO_snoc r y, tailO]; simp
theorem joinO_snoc (l : List ByteArray) (y : ByteArray) (h : l ≠ []) : joinO (l ++ [y]) = joinO l ++ ([32, 44] ++ y.data.toList) := by
  cases l with
  | nil => exact absurd rfl h
  | cons x r => rw [List.cons_append, joinO, tailO_snoc, joinO]; simp
/-- In one field. -/
theorem parse_one {l : List ByteArray} (h : ∀ y ∈ l, PartC y) (t : ByteArray) (ht : t = arr (joinO l)) : parseF [(cacheN, t)] = ctlL l := by
  have ha : allF cacheN [(cacheN, t)] = [t] := by
    unfold allF
    have : isNamed cacheN (cacheN, t) = true := by show sameF cacheN.data.toList cacheN.data.toList = true; decide +kernel
    simp [this]
  unfold parseF
  rw [ha, if_neg (by simp)]
  unfold listF
  rw [ha]
  show ctlL (partsF t ++ []) = _
  rw [List.append_nil, ht, parts_joinO l h]
/-- In many fields. -/
def fieldsO (n : ByteArray) (m : List ByteArray) : List (ByteArray × ByteArray) := m.map fun x => (n, x)
theorem parse_many {n : ByteArray} (hn : sameF n.data.toList cacheN.data.toList = true) {m : List ByteArray} (h : ∀ y ∈ m, PartC y) : parseF (fieldsO n m) = ctlL m := by
  have ha : allF cacheN (fieldsO n m) = m := by
    unfold allF fieldsO
    rw [List.filter_eq_self.2 (by
      intro f hf
      obtain ⟨x, _, rfl⟩ := List.mem_map.1 hf
      exact hn), List.map_map]
    exact List.map_id m
  have hl : listF cacheN (fieldsO n m) = m := by
    unfold listF
    rw [ha]
    clear ha
    induction m with
    | nil => rfl
    | cons x m ih => rw [List.flatMap_cons, parts_one (h x (by simp)), ih (fun y hy => h y (by simp [hy]))]; rfl
  unfold parseF
  rw [ha, hl]
  split
  · rename_i h0
    subst h0
    rfl
  · rfl
/-- Turned about: from place q on, and then from the beginning. -/
theorem turned (l : List ByteArray) (q : Nat) (hq : q ≤ l.length) : (l.drop q ++ l.take q).Perm l := by
  have := List.perm_append_comm (l₁ := l.drop q) (l₂ := l.take q)
  rwa [List.take_append_drop] at this
theorem turned_at (l : List ByteArray) (q i : Nat) (hq : q < l.length) (hi : i < l.length) : (l.drop q ++ l.take q)[i]? = l[(i + q) % l.length]? := by
  by_cases h : i < l.length - q
  · rw [List.getElem?_append_left (by rw [List.length_drop]; exact h), List.getElem?_drop, Nat.mod_eq_of_lt (by omega), Nat.add_comm]
  · rw [List.getElem?_append_right (by rw [List.length_drop]; omega), List.length_drop, List.getElem?_take, if_pos (by omega)]
    have e : (i + q) % l.length = i + q - l.length := by
      rw [Nat.mod_eq_sub_mod (by omega), Nat.mod_eq_of_lt (by omega)]
    rw [e]
    congr 1
    omega
end Go.Proofs.YtkpkpfolgbpjbaaDoor
namespace Go.Proofs.YtkpkpfolgbpjbaaDoor
open Go.RowKit HeadMath HeadS

set_option maxRecDepth 100000 in
set_option maxHeartbeats 4000000 in
theorem digits_any : ∀ (f n : Nat) (w : World), n < f → n ≤ 65535 → Calls Tryd.prog 14 #[.int .u16 n] w (DecPost n w) := by
  intro f
  induction f with
  | zero => intro n w h; omega
  | succ f ih =>
    intro n w hf hn
    unfold DecPost
    by_cases h10 : n < 10
    · have HD := Lib.hid (one_digit n h10)
      go_enter Tryd.func14, Tryd.ntmps14
      go_wp2
      go_ret
      exact ⟨by rw [← HD.out]; rfl, rfl⟩
    · have HD : Hid ((⟨(Lib.decDigits (n / 10)).toArray⟩ : ByteArray) ++ ⟨(Lib.decDigits (n % 10)).toArray⟩ = ⟨(Lib.decDigits n).toArray⟩) := Lib.hid (by
        rw [Lib.decDigits_one (show n % 10 < 10 by omega)]
        apply bytes_injC
        rw [ByteArray.data_append, show Lib.decDigits n = Lib.decDigits (n / 10) ++ [UInt8.ofNat (48 + n % 10)] from by rw [Lib.decDigits, dif_neg h10]]
        simp)
      have c1 := fun w => ih (n / 10) w (by omega) (by omega)
      have c2 := fun w => ih (n % 10) w (by omega) (by omega)
      unfold DecPost at c1 c2
      have z1 : (⟨(Lib.decDigits (n / 10)).toArray⟩ : ByteArray).size ≤ 21 := by
        show (Lib.decDigits (n / 10)).toArray.size ≤ 21
        simpa using dec_len (n / 10) (by omega)
      have z2 : (⟨(Lib.decDigits (n % 10)).toArray⟩ : ByteArray).size ≤ 21 := by
        show (Lib.decDigits (n % 10)).toArray.size ≤ 21
        simpa using dec_len (n % 10) (by omega)
      obtain ⟨a, ha⟩ : ∃ a : ByteArray, (⟨(Lib.decDigits (n / 10)).toArray⟩ : ByteArray) = a := ⟨_, rfl⟩
      obtain ⟨b, hb⟩ : ∃ b : ByteArray, (⟨(Lib.decDigits (n % 10)).toArray⟩ : ByteArray) = b := ⟨_, rfl⟩
      simp only [ha] at c1 z1 HD
      simp only [hb] at c2 z2 HD
      clear ih ha hb
      have e1 : (n : Int).tdiv 10 = ((n / 10 : Nat) : Int) := by rw [Int.tdiv_eq_ediv_of_nonneg (by omega)]; omega
      have e2 : (n : Int).tmod 10 = ((n % 10 : Nat) : Int) := by rw [Int.tmod_eq_emod_of_nonneg (by omega)]; omega
      go_enter Tryd.func14, Tryd.ntmps14
      go_wp2_with fail
      refine (c1 w).mono ?_
      rintro e w1 ⟨rfl, rfl⟩
      go_wp2_with fail
      refine (c2 w1).mono ?_
      rintro e w2 ⟨rfl, rfl⟩
      go_wp2
      go_ret
      exact ⟨by rw [← HD.out]; rfl, rfl⟩
def preA : Nat → ByteArray
  | 0 => ⟨#[109, 97, 120, 45, 97, 103, 101, 61]⟩
  | 1 => ⟨#[115, 45, 109, 97, 120, 97, 103, 101, 61]⟩
  | 2 => ⟨#[109, 105, 110, 45, 102, 114, 101, 115, 104, 61]⟩
  | _ => ⟨#[109, 97, 120, 45, 115, 116, 97, 108, 101, 61]⟩
def partA (n : Nat) : ByteArray := preA (n % 4) ++ ⟨(Lib.decDigits (n / 4)).toArray⟩
def partB (n : Nat) : ByteArray := match n % 6 with
  | 0 => ⟨#[110, 111, 45, 115, 116, 111, 114, 101]⟩
  | 1 => ⟨#[78, 111, 45, 67, 97, 99, 104, 101]⟩
  | 2 => ⟨#[112, 114, 105, 118, 97, 116, 101, 61, 34, 120, 44, 32, 121, 34]⟩
  | 3 => ⟨#[112, 117, 98, 108, 105, 99]⟩
  | 4 => ⟨#[109, 117, 115, 116, 45, 114, 101, 118, 97, 108, 105, 100, 97, 116, 101]⟩
  | _ => ⟨#[111, 116, 104, 101, 114, 61, 49]⟩
theorem item_part {x : ByteArray} (h : ItemB x) : PartC x := ⟨h.1, Closed.plain fun c hc => (h.2 c hc).1, item_bare h⟩
theorem partA_ok (n : Nat) (hn : n ≤ 65535) : PartC (partA n) := by
  refine item_part ?_
  have hd := (fold_digits (n / 4 + 1) (n / 4) (by omega) (by omega)).1
  have hl : (partA n).data.toList = (preA (n % 4)).data.toList ++ Lib.decDigits (n / 4) := by
    unfold partA
    rw [ByteArray.data_append]
    simp
  have hp : ItemB (preA (n % 4)) := by
    match n % 4 with
    | 0 => exact item_lit rfl
    | 1 => exact item_lit rfl
    | 2 => exact item_lit rfl
    | _ + 3 => exact item_lit rfl
  refine ⟨by rw [hl]; intro h; exact hp.1 (List.append_eq_nil_iff.1 h).1, fun c hc => ?_⟩
  rw [hl] at hc
  rcases List.mem_append.1 hc with h | h
  · exact hp.2 c h
  · have := List.all_eq_true.1 hd c h
    unfold digitB at this
    rw [decide_eq_true_iff] at this
    refine ⟨⟨fun e => ?_, fun e => ?_⟩, ?_⟩
    · subst e; exact absurd this (by decide)
    · subst e; exact absurd this (by decide)
    · unfold blankB
      rw [Bool.or_eq_false_iff, beq_eq_false_iff_ne, beq_eq_false_iff_ne]
      refine ⟨fun e => ?_, fun e => ?_⟩
      · subst e; exact absurd this (by decide)
      · subst e; exact absurd this (by decide)
theorem partB_ok (n : Nat) : PartC (partB n) := by
  unfold partB
  split
  · exact item_part (item_lit rfl)
  · exact item_part (item_lit rfl)
  · refine ⟨by decide, ?_, ?_⟩
    · have e : (⟨#[112, 114, 105, 118, 97, 116, 101, 61, 34, 120, 44, 32, 121, 34]⟩ : ByteArray).data.toList = [112, 114, 105, 118, 97, 116, 101, 61] ++ HeadS.quoted [120, 44, 32, 121] := rfl
      rw [e]
      exact Closed.append (plain_closed rfl) (Closed.quoted (by decide))
    · exact ⟨by decide, by decide⟩
  · exact item_part (item_lit rfl)
  · exact item_part (item_lit rfl)
  · exact item_part (item_lit rfl)
/-- A place within m, of any number. -/
def placeF (n m : Int) : Int := if n.tmod m < 0 then n.tmod m + m else n.tmod m
theorem placeF_in {n m : Int} (hm : 0 < m) : 0 ≤ placeF n m ∧ placeF n m < m := by
  unfold placeF
  have h1 := Int.tmod_lt_of_pos n hm
  have h2 := Int.lt_tmod_of_pos n hm
  split <;> omega
set_option maxHeartbeats 2000000 in
theorem place_any (n : Int) (m : Nat) (w : World) (hm : 0 < m) (hm1 : m ≤ 1000000) (h1 : -9223372036854775808 ≤ n) (h2 : n ≤ 9223372036854775807) :
    Calls Tryd.prog 15 #[.int .i64 n, .int .i64 m] w fun e w' => e = .returned (.int .i64 (placeF n m)) ∧ w' = w := by
  have ht1 := Int.tmod_lt_of_pos n (show (0 : Int) < m by omega)
  have ht2 := Int.lt_tmod_of_pos n (show (0 : Int) < m by omega)
  obtain ⟨r, hr⟩ : ∃ r, n.tmod (m : Int) = r := ⟨_, rfl⟩
  rw [hr] at ht1 ht2
  have hne : ¬ ((m : Int) = 0) := by omega
  have hne2 : ((m : Int) == 0) = false := by rw [beq_eq_false_iff_ne]; omega
  by_cases h0 : r < 0
  · have HV : Hid (placeF n m = r + m) := Lib.hid (by unfold placeF; rw [hr, if_pos h0])
    go_enter Tryd.func15, Tryd.ntmps15
    go_wp2
    go_ret
    exact ⟨by rw [HV.out]; rfl, rfl⟩
  · have HV : Hid (placeF n m = r) := Lib.hid (by unfold placeF; rw [hr, if_neg h0])
    go_enter Tryd.func15, Tryd.ntmps15
    go_wp2
    go_ret
    exact ⟨by rw [HV.out]; rfl, rfl⟩
end Go.Proofs.YtkpkpfolgbpjbaaDoor
namespace Go.Proofs.YtkpkpfolgbpjbaaDoor
open Go.RowKit HeadMath HeadS

/-- The slice that starts at a reads as the numbers l. -/
def U16At (w : World) (a : Option Addr) (l : List Nat) : Prop :=
  ∀ k (h : k < l.length), ∃ b off, a = some ⟨b, off, none⟩ ∧ b < w.heap.size ∧ w.cell? ⟨b, off + k, none⟩ = some (.int .u16 l[k])
theorem U16At.below {w w' : World} {a : Option Addr} {l : List Nat} (h : U16At w a l) (hb : Below w.heap.size w w') : U16At w' a l := by
  intro k hk
  obtain ⟨b, off, h1, h2, h3⟩ := h k hk
  exact ⟨b, off, h1, Nat.lt_of_lt_of_le h2 hb.size, (hb.cell (p := ⟨b, off + k, none⟩) h2).trans h3⟩
def partsO (a b : List Nat) : List ByteArray := a.map partA ++ b.map partB
theorem take_map {f : Nat → ByteArray} {l : List Nat} {k : Nat} (hk : k < l.length) : (l.take (k + 1)).map f = (l.take k).map f ++ [f l[k]] := by
  rw [List.take_succ_eq_append_getElem hk, List.map_append]; rfl
theorem dec_small (n : Nat) (h : n ≤ 65535) : (⟨(Lib.decDigits n).toArray⟩ : ByteArray).size ≤ 21 := by
  show (Lib.decDigits n).toArray.size ≤ 21
  simpa using dec_len n (by omega)
set_option maxRecDepth 100000 in
theorem infoField : ∃ i, Tryd.prog.info? 29 = some i ∧ i.zero = some (.agg #[.string ⟨#[]⟩, .string ⟨#[]⟩]) ∧ i.size = 2 ∧ i.bytes = 32 := ⟨_, rfl, by kernel_rfl, by kernel_rfl, by kernel_rfl⟩
theorem fields_snoc (n : ByteArray) (l : List ByteArray) (y : ByteArray) : fieldCells (fieldsO n (l ++ [y])) = fieldCells (fieldsO n l) ++ [.string n, .string y] := by simp [fieldCells, fieldsO]
def cacheU : ByteArray := ⟨#[67, 65, 67, 72, 69, 45, 67, 111, 110, 116, 114, 111, 108]⟩
def HOKP (P : List ByteArray) : Prop := ∀ x ∈ P, PartC x ∧ x.size ≤ 40
theorem parts_ok {la lb : List Nat} (h : ∀ n ∈ la, n ≤ 65535) : HOKP (partsO la lb) := by
  intro x hx
  unfold partsO at hx
  rcases List.mem_append.1 hx with hx | hx
  · obtain ⟨n, hn, rfl⟩ := List.mem_map.1 hx
    refine ⟨partA_ok n (h n hn), ?_⟩
    have := dec_small (n / 4) (by have := h n hn; omega)
    have hp : (preA (n % 4)).size ≤ 10 := by
      match n % 4 with
      | 0 => decide
      | 1 => decide
      | 2 => decide
      | n + 3 => show (preA 3).size ≤ 10; decide
    unfold partA
    rw [ByteArray.size_append]
    omega
  · obtain ⟨n, hn, rfl⟩ := List.mem_map.1 hx
    refine ⟨partB_ok n, ?_⟩
    unfold partB
    split <;> decide
theorem own_in {B : Nat} {w : World} {v : Value} {l : List ByteArray} (h : OwnStrs B w v l) : ∃ a n c, v = .slice a n c ∧ n = l.length ∧ StrsIn w.heap.size w a l := by
  by_cases h0 : l = []
  · subst h0
    obtain ⟨a, c, rfl, _⟩ := own_form (n := 0) h rfl
    exact ⟨a, 0, c, rfl, rfl, fun j hj => absurd hj (Nat.not_lt_zero _)⟩
  · obtain ⟨g, cap, rfl, h1, h2⟩ := World.ownsRow.form h (List.length_pos_iff.2 h0)
    refine ⟨_, _, cap, rfl, rfl, fun j hj => ⟨g, 0, rfl, h2, ?_⟩⟩
    have := h.cells (g := g) rfl j _ (strCells_at hj)
    have e : (⟨g, 0, none⟩ : Addr).add j = ⟨g, j, none⟩ := by unfold Addr.add; by_cases h0 : j = 0 <;> simp [h0]
    rw [e] at this
    rw [Nat.zero_add]
    exact this
theorem own_fieldsIn {B : Nat} {w : World} {v : Value} {n : Nat} {l : List (ByteArray × ByteArray)} (hn : l.length = n) (h : w.ownsRow B 29 2 v n (fieldCells l)) : ∃ a c, v = .slice a n c ∧ FieldsIn w.heap.size w a l := by
  subst hn
  rcases h.2 with ⟨rfl, h0⟩ | ⟨g, cap, cur, rfl, _, hg, _⟩
  · obtain rfl := List.eq_nil_of_length_eq_zero h0
    exact ⟨none, 0, rfl, fun j hj => absurd hj (Nat.not_lt_zero _)⟩
  · refine ⟨_, cap, rfl, fun j hj => ⟨g, 0, rfl, (Array.getElem?_eq_some_iff.1 hg).1, ?_, ?_⟩⟩
    · have := h.cells (g := g) rfl _ _ (fieldCells_at l j hj).1
      have e : (⟨g, 0, none⟩ : Addr).add (j * 2) = ⟨g, j * 2, none⟩ := by unfold Addr.add; by_cases h0 : j * 2 = 0 <;> simp [h0]
      rw [e] at this
      rw [Nat.zero_add]
      exact this
    · have := h.cells (g := g) rfl _ _ (fieldCells_at l j hj).2
      have e : (⟨g, 0, none⟩ : Addr).add (j * 2 + 1) = ⟨g, j * 2 + 1, none⟩ := by unfold Addr.add; simp
      rw [e] at this
      rw [Nat.zero_add]
      exact this
theorem kin_in {w : World} {a : Option Addr} {l : List (ByteArray × ByteArray)} (y : Kin w) (h : FieldsIn w.heap.size w a l) : FieldsIn y.wd.heap.size y.wd a l := fun j hj => by
  obtain ⟨b, off, h1, h2, h3, h4⟩ := h j hj
  exact ⟨b, off, h1, Nat.lt_of_lt_of_le h2 y.below.size, (y.below.cell (p := ⟨b, off + j * 2, none⟩) h2).trans h3, (y.below.cell (p := ⟨b, off + j * 2 + 1, none⟩) h2).trans h4⟩
theorem few_fields {n : ByteArray} {l : List ByteArray} (hn : n.size ≤ 1000000) (hl : l.length ≤ 100000) (h : ∀ x ∈ l, x.size ≤ 1000000) : FewF (fieldsO n l) := by
  refine ⟨by unfold fieldsO; rw [List.length_map]; exact hl, fun j hj => ?_⟩
  have hj' : j < l.length := by unfold fieldsO at hj; rwa [List.length_map] at hj
  have e : (fieldsO n l)[j] = (n, l[j]) := List.getElem_map (fun x => (n, x))
  rw [e]
  exact ⟨hn, h _ (List.getElem_mem hj')⟩
end Go.Proofs.YtkpkpfolgbpjbaaDoor
namespace Go.Proofs.YtkpkpfolgbpjbaaDoor
open Go.RowKit HeadMath HeadS

/-- Each run of blanks is one space; p: a blank stands just ahead. -/
def oneB : Bool → List UInt8 → List UInt8
  | _, [] => []
  | p, c :: r => if blankB c then (if p then oneB true r else 32 :: oneB true r) else c :: oneB false r
theorem oneB_len : ∀ (p : Bool) (l : List UInt8), (oneB p l).length ≤ l.length
  | _, [] => Nat.le_refl _
  | p, c :: r => by
    have h1 := oneB_len true r
    have h2 := oneB_len false r
    unfold oneB
    split
    · split
      · simp only [List.length_cons]; omega
      · simp only [List.length_cons]; omega
    · simp only [List.length_cons]; omega
/-- Is the byte ahead of k a blank? -/
def aheadB (s : ByteArray) (k : Nat) : Bool := if h : 0 < k ∧ k - 1 < s.size then blankB (s[k - 1]'h.2) else false
theorem ahead_succ (s : ByteArray) (k : Nat) (h : k < s.size) : aheadB s (k + 1) = blankB s[k] := by
  unfold aheadB
  rw [dif_pos ⟨by omega, by omega⟩]
  rfl
/-- What is written behind k bytes. -/
def BlankAt (s : ByteArray) (k : Nat) (acc : List UInt8) : Prop := oneB false s.data.toList = acc ++ oneB (aheadB s k) (s.data.toList.drop k) ∧ acc.length ≤ k
theorem drop_at (s : ByteArray) (k : Nat) (h : k < s.size) : s.data.toList.drop k = s[k] :: s.data.toList.drop (k + 1) := by
  rw [List.drop_eq_getElem_cons (by rw [size_list]; exact h)]
  rfl
theorem blank_step {s : ByteArray} {k : Nat} {acc : List UInt8} (h : k < s.size) (ha : BlankAt s k acc) :
    BlankAt s (k + 1) (if blankB s[k] then (if aheadB s k then acc else acc ++ [32]) else acc ++ [s[k]]) := by
  obtain ⟨h1, h2⟩ := ha
  rw [drop_at s k h] at h1
  unfold BlankAt
  rw [ahead_succ s k h]
  cases hb : blankB s[k] with
  | true =>
    cases hp : aheadB s k with
    | true =>
      refine ⟨?_, by simpa using Nat.le_succ_of_le h2⟩
      rw [h1, hp]
      simp [oneB, hb]
    | false =>
      refine ⟨?_, by simpa using h2⟩
      rw [h1, hp]
      simp [oneB, hb]
  | false =>
    refine ⟨?_, by simpa using h2⟩
    rw [h1]
    simp [oneB, hb]
theorem blank_zero (s : ByteArray) : BlankAt s 0 [] := by
  unfold BlankAt aheadB
  simp
theorem blank_end {s : ByteArray} {k : Nat} {acc : List UInt8} (h : ¬ k < s.size) (ha : BlankAt s k acc) : oneB false s.data.toList = acc := by
  obtain ⟨h1, _⟩ := ha
  rw [List.drop_of_length_le (by rw [size_list]; omega)] at h1
  simpa [oneB] using h1
theorem textBlank_any (c : UInt8) (w : World) : Calls Tryd.prog 76 #[.int .u8 c.toNat] w fun e w' => e = .returned (.bool (blankB c)) ∧ w = w' := by
  have q1 := u8_beq_lit c 32 (by omega)
  have q2 := u8_beq_lit c 9 (by omega)
  have H1 := Lib.hid q1
  have H2 := Lib.hid q2
  by_cases h : c = 32
  · have g : ((c.toNat : Int) == 32) = true := q1.trans (by simpa using h)
    clear q1 q2
    go_enter Tryd.func76, Tryd.ntmps76
    go_wp2
    go_ret
    exact ⟨ret_bool (by rw [h]; rfl), rfl⟩
  · have g : ((c.toNat : Int) == 32) = false := q1.trans (by simpa using h)
    have hb : (c == 32) = false := by simpa using h
    clear q1 q2
    go_enter Tryd.func76, Tryd.ntmps76
    go_wp2
    go_ret
    refine ⟨ret_bool ?_, rfl⟩
    unfold blankB
    rw [hb, Bool.false_or]
    exact H2.out
theorem built_new {w : World} : Lib.IsBuilder 79 5 w.heap.size w.heap.size [] (w.alloc (.cells #[.pointer none, .slice none 0 0] 79)) := Lib.fresh_isBuilder _ _ w
set_option maxRecDepth 100000 in
set_option maxHeartbeats 8000000 in
theorem oneBlank_any (s : ByteArray) (w : World) (hs : s.size ≤ 1000000000000) :
    Calls Tryd.prog 54 #[.string s] w fun e w' => e = .returned (.string ⟨(oneB false s.data.toList).toArray⟩) ∧ Below w.heap.size w w' := by
  go_enter Tryd.func54, Tryd.ntmps54
  go_wp2
  go_loopw [7] (fun i wr => ∃ (k : Nat) (acc : List UInt8), k ≤ s.size ∧ i = .int .i64 k ∧ Hid (BlankAt s k acc) ∧ Hid (Lib.IsBuilder 79 5 w.heap.size w.heap.size (Lib.byteCells acc) wr) ∧ Hid (Below w.heap.size w wr))
    (fun i _ => s.size - (intOf i).toNat)
  case atStart => exact ⟨0, [], Nat.zero_le _, rfl, Lib.hid (blank_zero s), Lib.hid built_new, Lib.hid ((Below.refl _ _).alloc (Nat.le_refl _) _)⟩
  case round =>
    obtain ⟨k, acc, hk, rfl, HA, HB, HW⟩ := hrel
    by_cases hlt : k < s.size
    · have HST := Lib.hid (blank_step hlt HA.out)
      have hal := HA.out.2
      cases hb : blankB s[k] with
      | false =>
        have HN : Hid (BlankAt s (k + 1) (acc ++ [s[k]])) := Lib.hid (by have := HST.out; rw [hb] at this; exact this)
        have cb := fun w => textBlank_any s[k] w
        rw [hb] at cb
        have CB := Lib.hid cb
        clear hb cb HST
        go_wp2_with fail
        refine (CB.out _).mono ?_
        rintro e w1 ⟨rfl, rfl⟩
        go_wp2_with fail
        refine (writeByte_any w.heap.size w.heap.size _ _ wr HB.out (by rw [Lib.byteCells_length]; omega) HW.out.size).mono ?_
        rintro e w2 ⟨rfl, hB2, hb2⟩
        have HB2 := Lib.hid hB2
        have HW2 := Lib.hid (HW.out.trans hb2)
        clear hB2 hb2
        go_wp2
        go_roundw
        case rel =>
          refine ⟨k + 1, _, by omega, by go_num, HN, Lib.hid ?_, HW2⟩
          rw [Lib.byteCells_append]
          exact Or.inr (by simpa [Lib.byteCells] using HB2.out)
        case measure => simp [intOf]; omega
      | true =>
        have cb := fun w => textBlank_any s[k] w
        rw [hb] at cb
        by_cases h0 : k = 0
        · have hp : aheadB s k = false := by unfold aheadB; rw [dif_neg (by omega)]
          have HN : Hid (BlankAt s (k + 1) (acc ++ [32])) := Lib.hid (by have := HST.out; rw [hb, hp] at this; exact this)
          have CB := Lib.hid cb
          have g0 : ((k : Int) == 0) = true := by rw [beq_iff_eq]; omega
          clear hb cb HST hp h0
          go_wp2_with fail
          refine (CB.out _).mono ?_
          rintro e w1 ⟨rfl, rfl⟩
          go_wp2_with fail
          refine (writeByte_any w.heap.size w.heap.size _ _ wr HB.out (by rw [Lib.byteCells_length]; omega) HW.out.size).mono ?_
          rintro e w2 ⟨rfl, hB2, hb2⟩
          have HB2 := Lib.hid hB2
          have HW2 := Lib.hid (HW.out.trans hb2)
          clear hB2 hb2
          go_wp2
          go_roundw
          case rel =>
            refine ⟨k + 1, _, by omega, by go_num, HN, Lib.hid ?_, HW2⟩
            rw [Lib.byteCells_append]
            exact Or.inr (by simpa [Lib.byteCells] using HB2.out)
          case measure => simp [intOf]; omega
        · obtain ⟨j, rfl⟩ : ∃ j, k = j + 1 := ⟨k - 1, by omega⟩
          have hjs : j < s.size := by omega
          have hp := ahead_succ s j hjs
          have cp := fun w => textBlank_any s[j] w
          have g0 : (((j + 1 : Nat) : Int) == 0) = false := by rw [beq_eq_false_iff_ne]; omega
          have g1 : ((j : Int) + 1 == 0) = false := by rw [beq_eq_false_iff_ne]; omega
          cases hq : blankB s[j] with
          | true =>
            rw [hq] at hp cp
            have HN : Hid (BlankAt s (j + 1 + 1) acc) := Lib.hid (by have := HST.out; rw [hb, hp] at this; exact this)
            have CB := Lib.hid cb
            have CP := Lib.hid cp
            clear hb cb HST hp cp hq h0
            go_wp2_with fail
            refine (CB.out _).mono ?_
            rintro e w1 ⟨rfl, rfl⟩
            go_wp2_with fail
            refine (CP.out _).mono ?_
            rintro e w1 ⟨rfl, rfl⟩
            go_wp2
            go_roundw
            case rel => exact ⟨j + 1 + 1, _, by omega, by go_num, HN, HB, HW⟩
            case measure => simp [intOf]; omega
          | false =>
            rw [hq] at hp cp
            have HN : Hid (BlankAt s (j + 1 + 1) (acc ++ [32])) := Lib.hid (by have := HST.out; rw [hb, hp] at this; exact this)
            have CB := Lib.hid cb
            have CP := Lib.hid cp
            clear hb cb HST hp cp hq h0
            go_wp2_with fail
            refine (CB.out _).mono ?_
            rintro e w1 ⟨rfl, rfl⟩
            go_wp2_with fail
            refine (CP.out _).mono ?_
            rintro e w1 ⟨rfl, rfl⟩
            go_wp2_with fail
            refine (writeByte_any w.heap.size w.heap.size _ _ wr HB.out (by rw [Lib.byteCells_length]; omega) HW.out.size).mono ?_
            rintro e w2 ⟨rfl, hB2, hb2⟩
            have HB2 := Lib.hid hB2
            have HW2 := Lib.hid (HW.out.trans hb2)
            clear hB2 hb2
            go_wp2
            go_roundw
            case rel =>
              refine ⟨j + 1 + 1, _, by omega, by go_num, HN, Lib.hid ?_, HW2⟩
              rw [Lib.byteCells_append]
              exact Or.inr (by simpa [Lib.byteCells] using HB2.out)
            case measure => simp [intOf]; omega
    · have HE := Lib.hid (blank_end hlt HA.out)
      go_wp2_with fail
      refine (Tryd.Builder_String_any w.heap.size w.heap.size acc wr HB.out HW.out.size).mono ?_
      rintro e w2 ⟨rfl, hb2⟩
      have HF := Lib.hid (HW.out.trans hb2)
      clear hb2
      go_wp2
      go_ret
      exact ⟨by rw [HE.out]; rfl, HF.out⟩
theorem row_nil {w w' : World} {e : Ending} (h : RowPost w [] e w') : ∃ a c, e = .returned (.slice a 0 c) ∧ Below w.heap.size w w' := by
  obtain ⟨v, rfl, hown, hb⟩ := h
  rcases hown.2 with ⟨rfl, _⟩ | ⟨g, c, cur, rfl, _⟩
  · exact ⟨none, 0, rfl, hb⟩
  · exact ⟨_, c, rfl, hb⟩
theorem row_cap {w w' : World} {r : List ByteArray} {e : Ending} (h : RowPost w r e w') (h0 : r ≠ []) :
    ∃ g c, e = .returned (.slice (some ⟨g, 0, none⟩) r.length c) ∧ (w.heap.size ≤ g ∧ g < w'.heap.size) ∧ r.length ≤ c ∧ (∀ j x, r[j]? = some x → w'.cell? ⟨g, 0 + j, none⟩ = some (.string x)) ∧ Below w.heap.size w w' := by
  obtain ⟨v, rfl, hown, hb⟩ := h
  rcases hown.2 with ⟨rfl, h1⟩ | ⟨g, c, cur, rfl, hB, hg, hc, _⟩
  · exact absurd (List.eq_nil_of_length_eq_zero h1) h0
  · refine ⟨g, c, rfl, ⟨hB, (Array.getElem?_eq_some_iff.1 hg).1⟩, hc, fun j x hx => ?_, hb⟩
    have := hown.cells (g := g) rfl j (.string x) (by unfold strCells; rw [List.getElem?_map, hx]; rfl)
    have e : (⟨g, 0, none⟩ : Addr).add j = ⟨g, j, none⟩ := by unfold Addr.add; by_cases h0 : j = 0 <;> simp [h0]
    rw [e] at this
    rw [Nat.zero_add]
    exact this
/-- All values of a name as one. -/
def joinF (n : ByteArray) (fs : List (ByteArray × ByteArray)) : List UInt8 := Lib.join ((allF n fs).map (·.data.toList)) [44, 32]
def normF (n : ByteArray) (fs : List (ByteArray × ByteArray)) : List UInt8 := oneB false (joinF n fs)
def hasF (n : ByteArray) (fs : List (ByteArray × ByteArray)) : Bool := !(allF n fs).isEmpty
theorem all_len (n : ByteArray) (fs : List (ByteArray × ByteArray)) : (allF n fs).length ≤ fs.length := by
  unfold allF
  rw [List.length_map]
  exact List.length_filter_le _ _
theorem all_size {fs : List (ByteArray × ByteArray)} {m : Nat} (h : ∀ j (hj : j < fs.length), fs[j].2.size ≤ m) (n : ByteArray) : ∀ x ∈ allF n fs, x.size ≤ m := by
  intro x hx
  unfold allF at hx
  obtain ⟨f, hf, rfl⟩ := List.mem_map.1 hx
  obtain ⟨j, hj, rfl⟩ := List.getElem_of_mem (List.mem_filter.1 hf).1
  exact h j hj
theorem joinF_len {fs : List (ByteArray × ByteArray)} (hf : FewF fs) (n : ByteArray) : (joinF n fs).length ≤ 100000200000 := by
  obtain ⟨m, hm⟩ : ∃ m, m = 1000000 := ⟨_, rfl⟩
  have h1 := join_len ((allF n fs).map (·.data.toList)) m (fun x hx => by
    obtain ⟨y, hy, rfl⟩ := List.mem_map.1 hx
    rw [size_list, hm]
    exact all_size (fun j hj => (hf.2 j hj).2) n y hy)
  rw [List.length_map] at h1
  have h2 := Nat.le_trans (all_len n fs) hf.1
  have h3 : (allF n fs).length * (m + 2) ≤ 100000 * (m + 2) := Nat.mul_le_mul_right (m + 2) h2
  show (Lib.join ((allF n fs).map (·.data.toList)) [44, 32]).length ≤ _
  omega
def NormPost (n : ByteArray) (fs : List (ByteArray × ByteArray)) (w : World) (e : Ending) (w' : World) : Prop :=
  e = .returned (.tuple #[.string ⟨(normF n fs).toArray⟩, .bool (hasF n fs)]) ∧ Below w.heap.size w w'
set_option maxRecDepth 100000 in
set_option maxHeartbeats 4000000 in
theorem normal_any (fs : List (ByteArray × ByteArray)) (n : ByteArray) (a : Option Addr) (c : Nat) (w : World) (hin : FieldsIn w.heap.size w a fs) (hf : FewF fs) (hn : n.size ≤ 1000000) :
    Calls Tryd.prog 23 #[.slice a fs.length c, .string n] w (NormPost n fs w) := by
  have cA := all_any fs n a c w hin hf.small (by have := hf.1; omega) (by omega)
  have hjl := joinF_len hf n
  have hal := Nat.le_trans (all_len n fs) hf.1
  have HNF : Hid (normF n fs = oneB false (joinF n fs)) := Lib.hid rfl
  have HHF : Hid (hasF n fs = !(allF n fs).isEmpty) := Lib.hid rfl
  have HJF : Hid (joinF n fs = Lib.join ((allF n fs).map (·.data.toList)) [44, 32]) := Lib.hid rfl
  obtain ⟨r, hr⟩ : ∃ r, allF n fs = r := ⟨_, rfl⟩
  obtain ⟨J, hJ⟩ : ∃ J, joinF n fs = J := ⟨_, rfl⟩
  rw [hr] at cA hal HHF HJF
  rw [hJ] at hjl HNF HJF
  clear hr hJ hin hf
  unfold NormPost
  have hjs : (⟨J.toArray⟩ : ByteArray).size ≤ 1000000000000 := by show J.toArray.size ≤ _; simp; omega
  by_cases h0 : r = []
  · subst h0
    have HJ0 : Hid (J = []) := Lib.hid (by rw [HJF.out]; rfl)
    have CA := Lib.hid (cA.mono fun _ _ h => row_nil h)
    clear cA
    go_enter Tryd.func23, Tryd.ntmps23
    go_wp2_with fail
    refine CA.out.mono ?_
    rintro e w1 ⟨a1, c1, rfl, hb1⟩
    have HB1 := Lib.hid hb1
    clear hb1
    go_wp2_with fail
    refine (Tryd.strings_Join_none a1 c1 ⟨#[44, 32]⟩ w1).mono ?_
    rintro e w2 ⟨rfl, hw2⟩
    replace hw2 := hw2.symm
    subst hw2
    go_wp2_with fail
    refine (oneBlank_any ⟨#[]⟩ w1 (by decide)).mono ?_
    rintro e w3 ⟨rfl, hb3⟩
    have HB3 := Lib.hid (HB1.out.trans (hb3.mono HB1.out.size))
    clear hb3
    go_wp2
    go_ret2
    refine ⟨?_, HB3.out⟩
    rw [HNF.out, HHF.out, HJ0.out]
    rfl
  · have hpos : 0 < r.length := List.length_pos_iff.2 h0
    have CA := Lib.hid (cA.mono fun _ _ h => row_cap h h0)
    have HH : Hid (hasF n fs = true) := Lib.hid (by rw [HHF.out]; cases r with | nil => exact absurd rfl h0 | cons _ _ => rfl)
    clear cA h0 HHF
    go_enter Tryd.func23, Tryd.ntmps23
    go_wp2_with fail
    refine CA.out.mono ?_
    rintro e w1 ⟨g1, c1, rfl, ⟨hg0, hg1⟩, hc1, hcell, hb1⟩
    have HB1 := Lib.hid hb1
    have CJ := Lib.hid (Tryd.strings_Join g1 0 c1 r ⟨#[44, 32]⟩ w1 hcell hg1 (by omega) hc1 (by
      have : (Lib.join (r.map (·.data.toList)) [44, 32]).length ≤ 140737488355328 := by rw [← HJF.out]; omega
      exact this))
    clear hb1 hcell hg0 hg1 hc1
    go_wp2_with fail
    refine CJ.out.mono ?_
    rintro e w2 ⟨rfl, hb2⟩
    have HB2 := Lib.hid (HB1.out.trans (hb2.mono HB1.out.size))
    clear hb2
    have e2 : (⟨(Lib.join (r.map (·.data.toList)) (⟨#[44, 32]⟩ : ByteArray).data.toList).toArray⟩ : ByteArray) = ⟨J.toArray⟩ := by rw [HJF.out]
    rw [e2]
    clear e2
    have cO := fun w => oneBlank_any ⟨J.toArray⟩ w hjs
    obtain ⟨s2, hs2⟩ : ∃ s2 : ByteArray, (⟨J.toArray⟩ : ByteArray) = s2 := ⟨_, rfl⟩
    have HS2 : Hid (s2.data.toList = J) := Lib.hid (by rw [← hs2])
    rw [hs2] at cO
    rw [hs2]
    have CO := Lib.hid cO
    clear cO hjs hs2
    go_wp2_with fail
    refine (CO.out w2).mono ?_
    rintro e w3 ⟨rfl, hb3⟩
    have HB3 := Lib.hid (HB2.out.trans (hb3.mono HB2.out.size))
    clear hb3
    go_wp2
    go_ret2
    refine ⟨?_, HB3.out⟩
    rw [HNF.out, HH.out, HS2.out]
    rfl
end Go.Proofs.YtkpkpfolgbpjbaaDoor
namespace Go.Proofs.YtkpkpfolgbpjbaaDoor
open Go.RowKit HeadMath HeadS

theorem take_snocR (r : List ByteArray) (k : Nat) (h : k < r.length) : (r.take (k + 1)).map (·.data.toList) = (r.take k).map (·.data.toList) ++ [r[k].data.toList] := by
  rw [List.take_succ_eq_append_getElem h, List.map_append]; rfl
theorem blank_is {c : UInt8} (h : blankB c = true) : c = 32 ∨ c = 9 := by
  unfold blankB at h
  rw [Bool.or_eq_true, beq_iff_eq, beq_iff_eq] at h
  exact h
theorem blank_no {c : UInt8} (h : blankB c = false) : c ≠ 32 ∧ c ≠ 9 := by
  unfold blankB at h
  rw [Bool.or_eq_false_iff, beq_eq_false_iff_ne, beq_eq_false_iff_ne] at h
  exact h
theorem u8_32 {c : UInt8} : ((c.toNat : Int) == 32) = (c == 32) := u8_beq_lit c 32 (by omega)
theorem u8_9 {c : UInt8} : ((c.toNat : Int) == 9) = (c == 9) := u8_beq_lit c 9 (by omega)
theorem size_arr (l : List UInt8) : (⟨l.toArray⟩ : ByteArray).size = l.length := by show l.toArray.size = l.length; simp
set_option maxRecDepth 100000 in
set_option maxHeartbeats 8000000 in
theorem refNormal_any (fs : List (ByteArray × ByteArray)) (n : ByteArray) (a : Option Addr) (c : Nat) (w : World) (hin : FieldsIn w.heap.size w a fs) (hf : FewF fs) (hn : n.size ≤ 1000000) :
    Calls Tryd.prog 24 #[.slice a fs.length c, .string n] w (NormPost n fs w) := by
  have cA := (refAll_any fs n a c fs.length w hin rfl hf.small (by have := hf.1; omega) (by omega)).mono fun _ _ h => row_b h
  unfold RowB at cA
  have hal := Nat.le_trans (all_len n fs) hf.1
  have hxs := all_size (fun j hj => (hf.2 j hj).2) n
  have HNF : Hid (normF n fs = oneB false (joinF n fs)) := Lib.hid rfl
  have HHF : Hid (hasF n fs = !(allF n fs).isEmpty) := Lib.hid rfl
  have HJF : Hid (joinF n fs = Lib.join ((allF n fs).map (·.data.toList)) [44, 32]) := Lib.hid rfl
  have HJL : Hid (∀ k, (Lib.join (((allF n fs).take k).map (·.data.toList)) [44, 32]).length ≤ 100000200000) := Lib.hid (fun k => by
    obtain ⟨m, hm⟩ : ∃ m, m = 1000000 := ⟨_, rfl⟩
    have h1 := join_len (((allF n fs).take k).map (·.data.toList)) m (fun x hx => by
      obtain ⟨y, hy, rfl⟩ := List.mem_map.1 hx
      rw [size_list, hm]
      exact hxs y (List.mem_of_mem_take hy))
    rw [List.length_map] at h1
    have h2 : ((allF n fs).take k).length ≤ 100000 := Nat.le_trans (List.length_take_le' k _) hal
    have h3 : ((allF n fs).take k).length * (m + 2) ≤ 100000 * (m + 2) := Nat.mul_le_mul_right (m + 2) h2
    omega)
  obtain ⟨r, hr⟩ : ∃ r, allF n fs = r := ⟨_, rfl⟩
  obtain ⟨J, hJ⟩ : ∃ J, joinF n fs = J := ⟨_, rfl⟩
  rw [hr] at cA hal hxs HHF HJF HJL
  rw [hJ] at HNF HJF
  have HXS := Lib.hid hxs
  have CA := Lib.hid cA
  clear hr hJ hin hf hxs cA
  unfold NormPost
  go_enter Tryd.func24, Tryd.ntmps24
  go_wp2_with fail
  refine CA.out.mono ?_
  rintro e w1 ⟨a1, c1, rfl, hrow, hb1⟩
  have HROW := Lib.hid hrow
  have HB1 := Lib.hid hb1
  clear hrow hb1
  go_wp2
  go_loop [7, 8] (fun t i => ∃ (k : Nat) (s : ByteArray), k ≤ r.length ∧ i = .int .i64 k ∧ t = .string s ∧ Hid (s = ⟨(Lib.join ((r.take k).map (·.data.toList)) [44, 32]).toArray⟩)) (fun _ i => r.length - (intOf i).toNat)
  case atStart => exact ⟨0, ⟨#[]⟩, Nat.zero_le _, rfl, rfl, Lib.hid rfl⟩
  case round =>
    obtain ⟨k, s, hk, rfl, rfl, HS⟩ := hrel
    by_cases hkl : k < r.length
    · obtain ⟨b, rfl, _, _, hc0⟩ := HROW.out k hkl
      have hz := HXS.out _ (List.getElem_mem hkl)
      have HTK := Lib.hid (take_snocR r k hkl)
      have hsz : s.size ≤ 100000200000 := by rw [HS.out, size_arr]; exact HJL.out k
      have HSK : Hid (k = 0 → s = ⟨#[]⟩) := Lib.hid (fun h => by rw [HS.out, h]; rfl)
      have HNE : Hid (0 < k → (r.take k).map (·.data.toList) ≠ []) := Lib.hid (fun h e => by have := congrArg List.length e; rw [List.length_map, List.length_take, List.length_nil] at this; omega)
      obtain ⟨x, hx⟩ : ∃ x, r[k] = x := ⟨_, rfl⟩
      rw [hx] at hc0 hz HTK
      clear hx
      by_cases h0 : k = 0
      · have HV : Hid (s ++ x = ⟨(Lib.join ((r.take (k + 1)).map (·.data.toList)) [44, 32]).toArray⟩) := Lib.hid (by
          rw [HTK.out, HSK.out h0, h0]
          apply bytes_injC
          rw [ByteArray.data_append]
          simp [Lib.join_one])
        have g0 : decide ((0 : Int) < (k : Int)) = false := by rw [decide_eq_false_iff_not]; omega
        have g2 : decide (0 < k) = false := by rw [decide_eq_false_iff_not]; omega
        have g3 : ¬ 0 < k := by omega
        have q1 : ¬ 9223372036854775807 < s.size + x.size := by omega
        clear h0 hk
        go_wp2
        go_round
        case rel => exact ⟨k + 1, _, by omega, by go_num, rfl, HV⟩
        case measure => simp [intOf]; omega
      · have HV : Hid (s ++ ⟨#[44, 32]⟩ ++ x = ⟨(Lib.join ((r.take (k + 1)).map (·.data.toList)) [44, 32]).toArray⟩) := Lib.hid (by
          rw [HTK.out, join_snoc _ _ (HNE.out (by omega)), HS.out]
          apply bytes_injC
          rw [ByteArray.data_append, ByteArray.data_append]
          simp)
        have g0 : decide ((0 : Int) < (k : Int)) = true := by rw [decide_eq_true_iff]; omega
        have g2 : decide (0 < k) = true := by rw [decide_eq_true_iff]; omega
        have g3 : 0 < k := by omega
        have q1 : ¬ 9223372036854775807 < s.size + 2 := by omega
        have q2 : ¬ 9223372036854775807 < s.size + 2 + x.size := by omega
        clear h0 hk
        go_wp2
        go_round
        case rel => exact ⟨k + 1, _, by omega, by go_num, rfl, HV⟩
        case measure => simp [intOf]; omega
    · have HSJ : Hid (s.data.toList = J) := Lib.hid (by rw [HS.out, HJF.out, List.take_of_length_le (by omega)])
      have hsz : s.size ≤ 100000200000 := by rw [HS.out, size_arr]; exact HJL.out k
      have hrk : k = r.length := by omega
      have HHK : Hid (hasF n fs = decide (0 < k)) := Lib.hid (by
        rw [HHF.out, hrk]
        cases r with
        | nil => rfl
        | cons _ _ => simp)
      clear hrk
      have hw1 := HB1.out.size
      go_wp2
      go_loopw [9, 10, 11] (fun v p i wr => ∃ (j : Nat) (acc : List UInt8) (v0 : Value), j ≤ s.size ∧ i = .int .i64 j ∧ v0 = v ∧ p = .bool (aheadB s j) ∧ Hid (BlankAt s j acc) ∧ Hid (Row8 w.heap.size wr v0 acc) ∧ Hid (Below w.heap.size w wr)) (fun _ _ i _ => s.size - (intOf i).toNat)
      case atStart => exact ⟨0, [], _, Nat.zero_le _, rfl, rfl, by unfold aheadB; rw [dif_neg (by omega)], Lib.hid (blank_zero s), Lib.hid (row8_nil _ _), HB1⟩
      case round =>
        obtain ⟨j, acc, v, hj, rfl, rfl, rfl, HA, HR, HW⟩ := hrel
        by_cases hjs : j < s.size
        · have HST := Lib.hid (blank_step hjs HA.out)
          have HSUC := Lib.hid (ahead_succ s j hjs)
          have hal2 := HA.out.2
          have HLEN : Hid (acc.length + 1 ≤ 140737488355328) := Lib.hid (by omega)
          have hBo := HW.out.size
          have HU1 := Lib.hid (u8_32 (c := s[j]))
          have HU2 := Lib.hid (u8_9 (c := s[j]))
          obtain ⟨c, hc⟩ : ∃ c, s[j] = c := ⟨_, rfl⟩
          cases hb : blankB c with
          | false =>
            have hne := blank_no hb
            have g1 : ((s[j].toNat : Int) == 32) = false := by rw [HU1.out, hc]; exact beq_eq_false_iff_ne.2 hne.1
            have g2 : ((s[j].toNat : Int) == 9) = false := by rw [HU2.out, hc]; exact beq_eq_false_iff_ne.2 hne.2
            have HN : Hid (BlankAt s (j + 1) (acc ++ [s[j]])) := Lib.hid (by have := HST.out; rw [hc, hb] at this; rw [hc]; exact this)
            have HP : Hid (aheadB s (j + 1) = false) := Lib.hid (by rw [HSUC.out, hc, hb])
            clear hne hb hc HST HSUC
            go_wp2_with ((with_reducible show wpList _ _ _ (⟨some 55, _, _, _, _, _⟩ :: _) _ _); refine wpList_row_one rfl _ _ rfl w.heap.size _ acc rfl HR.out s[j] _ rfl rfl HLEN.out hBo ?_; intro v9 w9 hr9 hs9; have HR9 := Lib.hid hr9; have HS9 := Lib.hid hs9; clear hr9 hs9)
            go_roundw
            case rel => exact ⟨j + 1, _, _, by omega, by go_num, rfl, by rw [HP.out], HN, HR9, Lib.hid (HW.out.trans (HS9.out.below HW.out.size (fun k hk e => by unfold atLeast at e; omega)))⟩
            case measure => simp [intOf]; omega
          | true =>
            have HP : Hid (aheadB s (j + 1) = true) := Lib.hid (by rw [HSUC.out, hc, hb])
            have hor := blank_is hb
            have hg : (((s[j].toNat : Int) == 32) = true) ∨ (((s[j].toNat : Int) == 32) = false ∧ ((s[j].toNat : Int) == 9) = true) := by
              rw [HU1.out, HU2.out, hc]
              rcases hor with e | e
              · exact .inl (by rw [e]; rfl)
              · exact .inr (by rw [e]; exact ⟨rfl, rfl⟩)
            cases hp : aheadB s j with
            | true =>
              have HN : Hid (BlankAt s (j + 1) acc) := Lib.hid (by have := HST.out; rw [hc, hb, hp] at this; exact this)
              clear hor hb hc HST HSUC
              rcases hg with g1 | ⟨g1, g2⟩
              · go_wp2
                go_roundw
                case rel => exact ⟨j + 1, _, _, by omega, by go_num, rfl, by rw [HP.out], HN, HR, HW⟩
                case measure => simp [intOf]; omega
              · go_wp2
                go_roundw
                case rel => exact ⟨j + 1, _, _, by omega, by go_num, rfl, by rw [HP.out], HN, HR, HW⟩
                case measure => simp [intOf]; omega
            | false =>
              have HN : Hid (BlankAt s (j + 1) (acc ++ [32])) := Lib.hid (by have := HST.out; rw [hc, hb, hp] at this; exact this)
              clear hor hb hc HST HSUC
              rcases hg with g1 | ⟨g1, g2⟩
              · go_wp2_with ((with_reducible show wpList _ _ _ (⟨some 51, _, _, _, _, _⟩ :: _) _ _); refine wpList_row_one rfl _ _ rfl w.heap.size _ acc rfl HR.out 32 _ rfl rfl HLEN.out hBo ?_; intro v9 w9 hr9 hs9; have HR9 := Lib.hid hr9; have HS9 := Lib.hid hs9; clear hr9 hs9)
                go_roundw
                case rel => exact ⟨j + 1, _, _, by omega, by go_num, rfl, by rw [HP.out], HN, HR9, Lib.hid (HW.out.trans (HS9.out.below HW.out.size (fun k hk e => by unfold atLeast at e; omega)))⟩
                case measure => simp [intOf]; omega
              · go_wp2_with ((with_reducible show wpList _ _ _ (⟨some 51, _, _, _, _, _⟩ :: _) _ _); refine wpList_row_one rfl _ _ rfl w.heap.size _ acc rfl HR.out 32 _ rfl rfl HLEN.out hBo ?_; intro v9 w9 hr9 hs9; have HR9 := Lib.hid hr9; have HS9 := Lib.hid hs9; clear hr9 hs9)
                go_roundw
                case rel => exact ⟨j + 1, _, _, by omega, by go_num, rfl, by rw [HP.out], HN, HR9, Lib.hid (HW.out.trans (HS9.out.below HW.out.size (fun k hk e => by unfold atLeast at e; omega)))⟩
                case measure => simp [intOf]; omega
        · have HE := Lib.hid (blank_end hjs HA.out)
          obtain ⟨av, cv, rfl, hat, _, _⟩ := HR.out.shape
          have hconv := conv_bytes hat cv
          clear hat
          go_wp2
          go_ret2
          refine ⟨?_, HW.out⟩
          rw [HNF.out, ← HSJ.out, HE.out, HHK.out]
          simp
          omega
end Go.Proofs.YtkpkpfolgbpjbaaDoor
namespace Go.Proofs.YtkpkpfolgbpjbaaDoor
open Go.RowKit HeadMath HeadS

theorem low_eq {c d : UInt8} (h1 : ¬ (97 ≤ d.toNat ∧ d.toNat ≤ 122)) (h2 : ¬ (65 ≤ d.toNat ∧ d.toNat ≤ 90)) : (small c = d) = (c = d) := by
  apply propext
  by_cases hc : 65 ≤ c.toNat ∧ c.toNat ≤ 90
  · have := small_up hc
    constructor
    · intro e; rw [e] at this; omega
    · intro e; subst e; exact absurd hc h2
  · rw [small_other hc]
theorem low34 {c : UInt8} : (small c = 34) = (c = 34) := low_eq (by decide) (by decide)
theorem low44 {c : UInt8} : (small c = 44) = (c = 44) := low_eq (by decide) (by decide)
theorem low92 {c : UInt8} : (small c = 92) = (c = 92) := low_eq (by decide) (by decide)
theorem low61 {c : UInt8} : (small c = 61) = (c = 61) := low_eq (by decide) (by decide)
theorem low_blank (c : UInt8) : blankB (small c) = blankB c := by
  have h1 : (small c = 32) = (c = 32) := low_eq (by decide) (by decide)
  have h2 : (small c = 9) = (c = 9) := low_eq (by decide) (by decide)
  unfold blankB
  rw [Bool.eq_iff_iff, Bool.or_eq_true, Bool.or_eq_true, beq_iff_eq, beq_iff_eq, beq_iff_eq, beq_iff_eq, h1, h2]
theorem low_digit (c : UInt8) : digitB (small c) = digitB c := by
  unfold digitB
  by_cases hc : 65 ≤ c.toNat ∧ c.toNat ≤ 90
  · have := small_up hc
    rw [Bool.eq_iff_iff, decide_eq_true_iff, decide_eq_true_iff]
    omega
  · rw [small_other hc]
theorem low_is {c : UInt8} (h : digitB c = true) : small c = c := by
  unfold digitB at h
  rw [decide_eq_true_iff] at h
  exact small_other (by omega)
theorem low_low (c : UInt8) : small (small c) = small c := by
  by_cases hc : 65 ≤ c.toNat ∧ c.toNat ≤ 90
  · have := small_up hc
    exact small_other (by omega)
  · rw [small_other hc, small_other hc]
theorem lowF_twice (l : List UInt8) : lowF (lowF l) = lowF l := by
  unfold lowF
  rw [List.map_map]
  exact List.map_congr_left fun c _ => low_low c
theorem end_low : ∀ (q t : Bool) (l : List UInt8), endF q t (lowF l) = endF q t l
  | _, _, [] => rfl
  | q, true, c :: r => by
    show endF q true (small c :: lowF r) = _
    simp only [endF, end_low q false r]
  | true, false, c :: r => by
    show endF true false (small c :: lowF r) = _
    simp only [endF, low92, low34, end_low true true r, end_low false false r, end_low true false r]
  | false, false, c :: r => by
    show endF false false (small c :: lowF r) = _
    simp only [endF, low44, low34, end_low false false r, end_low true false r]
theorem trimL_low (l : List UInt8) : trimL (lowF l) = lowF (trimL l) := by
  unfold trimL lowF
  rw [List.dropWhile_map]
  congr 2
  funext c
  exact low_blank c
theorem trim_low (l : List UInt8) : trimF (lowF l) = lowF (trimF l) := by
  unfold trimF
  have h : ∀ l : List UInt8, (lowF l).reverse = lowF l.reverse := fun l => by unfold lowF; rw [List.map_reverse]
  rw [h, trimL_low, h, trimL_low]
def lowB (x : ByteArray) : ByteArray := ⟨(lowF x.data.toList).toArray⟩
theorem lowB_list (x : ByteArray) : (lowB x).data.toList = lowF x.data.toList := rfl
theorem lowB_size (x : ByteArray) : (lowB x).size = x.size := by
  rw [← size_list, ← size_list, lowB_list]
  unfold lowF
  rw [List.length_map]
theorem list_inj {x y : ByteArray} (h : x.data.toList = y.data.toList) : x = y := data_inj h
theorem lowB_extract (x : ByteArray) (i j : Nat) : (lowB x).extract i j = lowB (x.extract i j) := by
  apply list_inj
  rw [Lib.extract_data, lowB_list, lowB_list, Lib.extract_data]
  unfold lowF
  rw [List.map_take, List.map_drop]
theorem piece_low (v : ByteArray) : pieceOf (lowB v) = lowB (pieceOf v) := by
  apply list_inj
  unfold pieceOf endOf
  rw [lowB_list, lowB_list, end_low, lowB_extract, lowB_list]
  exact trim_low _
theorem rest_low (v : ByteArray) : restOf (lowB v) = lowB (restOf v) := by
  unfold restOf endOf
  rw [lowB_list, end_low, lowB_size, lowB_extract]
theorem parts_low : ∀ (n : Nat) (v : ByteArray), v.size ≤ n → partsF (lowB v) = (partsF v).map lowB := by
  intro n
  induction n with
  | zero =>
    intro v hv
    rw [partsF_nil (by rw [lowB_size]; omega), partsF_nil (by omega)]
    rfl
  | succ n ih =>
    intro v hv
    by_cases h0 : v.size = 0
    · rw [partsF_nil (by rw [lowB_size]; exact h0), partsF_nil h0]
      rfl
    · have ev : partsF v = (if (pieceOf v).size = 0 then [] else [pieceOf v]) ++ partsF (restOf v) := by rw [partsF, dif_neg h0]
      have el : partsF (lowB v) = (if (pieceOf (lowB v)).size = 0 then [] else [pieceOf (lowB v)]) ++ partsF (restOf (lowB v)) := by rw [partsF, dif_neg (by rw [lowB_size]; exact h0)]
      rw [el, ev, piece_low, rest_low, lowB_size, ih (restOf v) (by rw [restOf_size]; omega)]
      by_cases hp : (pieceOf v).size = 0
      · rw [if_pos hp, if_pos hp, List.nil_append, List.nil_append]
      · rw [if_neg hp, if_neg hp, List.singleton_append, List.singleton_append, List.map_cons]
theorem walk_low : ∀ (n : Nat) (r acc : List UInt8), r.length ≤ n → walkP (lowF r) (lowF acc) = (walkP r acc).map lowF := by
  intro n
  induction n with
  | zero =>
    intro r acc h
    obtain rfl := List.eq_nil_of_length_eq_zero (Nat.le_zero.1 h)
    rfl
  | succ n ih =>
    intro r acc h
    match r, h with
    | [], _ => rfl
    | [c], _ =>
      show walkP [small c] (lowF acc) = _
      simp only [walkP, low34]
      split <;> rfl
    | c :: d :: r, h =>
      have hl : r.length ≤ n := by simp at h; omega
      have hl2 : (d :: r).length ≤ n := by simp at h ⊢; omega
      have i1 := ih r (acc ++ [d]) hl
      have i2 := ih (d :: r) (acc ++ [c]) hl2
      have e1 : lowF (acc ++ [d]) = lowF acc ++ [small d] := by simp [lowF]
      have e2 : lowF (acc ++ [c]) = lowF acc ++ [small c] := by simp [lowF]
      have e3 : lowF (d :: r) = small d :: lowF r := rfl
      rw [e1] at i1
      rw [e2, e3] at i2
      show walkP (small c :: small d :: lowF r) (lowF acc) = _
      simp only [walkP, low34, low92]
      by_cases h34 : c = 34
      · simp [h34]
      · by_cases h92 : c = 92
        · simp [h92, i1]
        · simp [h34, h92, i2]
theorem unq_not {c : UInt8} {r : List UInt8} (h : c ≠ 34) : unqF (c :: r) = c :: r := by
  unfold unqF
  split
  · rename_i e; injection e with e; exact absurd e h
  · rfl
theorem unq_low (l : List UInt8) : unqF (lowF l) = lowF (unqF l) := by
  cases l with
  | nil => rfl
  | cons c r =>
    by_cases h : c = 34
    · subst h
      have e : lowF (34 :: r) = 34 :: lowF r := rfl
      rw [e]
      show (walkP (lowF r) []).getD (34 :: lowF r) = lowF ((walkP r []).getD (34 :: r))
      have := walk_low r.length r [] (Nat.le_refl _)
      rw [show lowF [] = [] from rfl] at this
      rw [this]
      cases walkP r [] <;> rfl
    · rw [unq_not h]
      show unqF (small c :: lowF r) = _
      rw [unq_not (by rw [Ne, low34]; exact h)]
      rfl
theorem sec_low (l : List UInt8) : secF (lowF l) = secF l := by
  have ha : (lowF l).all digitB = l.all digitB := by
    unfold lowF
    rw [List.all_map]
    congr 1
    funext c
    exact low_digit c
  unfold secF
  rw [ha]
  split
  · rename_i h
    have : lowF l = l := by
      unfold lowF
      conv => rhs; rw [← List.map_id l]
      exact List.map_congr_left fun c hc => low_is (List.all_eq_true.1 h c hc)
    rw [this]
  · rfl
theorem eq_low (s : ByteArray) : eqAt (lowB s) = eqAt s := by
  unfold eqAt
  rw [lowB_list]
  generalize s.data.toList = l
  induction l with
  | nil => rfl
  | cons c l ih =>
    show Lib.indexByte (small c :: lowF l) 61 = _
    simp only [Lib.indexByte, beq_iff_eq, low61, ih]
theorem say_low (c : Ctl) (p : ByteArray) : sayF c (lowB p) = sayF c p := by
  have e0 : lowB (⟨#[]⟩ : ByteArray) = ⟨#[]⟩ := rfl
  have hn : namP (lowB p) = lowB (namP p) := by
    unfold namP
    rw [eq_low]
    split
    · rfl
    · rw [lowB_extract]
  have hv : valP (lowB p) = lowB (valP p) := by
    unfold valP
    rw [eq_low]
    split
    · rfl
    · rw [lowB_extract, lowB_size]
  have hh : hasP (lowB p) = hasP p := by unfold hasP; rw [eq_low]
  have hk : kindP (lowB p) = kindP p := by unfold kindP; rw [hn, lowB_list, lowF_twice]
  have hs : valSec (valP (lowB p)) = valSec (valP p) := by unfold valSec; rw [hv, lowB_list, unq_low, sec_low]
  unfold sayF
  rw [hh, hk, hs]
theorem fold_low (l : List ByteArray) : ctlL (l.map lowB) = ctlL l := by
  unfold ctlL
  generalize ctl0 = c
  induction l generalizing c with
  | nil => rfl
  | cons x l ih => rw [List.map_cons, List.foldl_cons, say_low, ih]; rfl
/-- Values that differ by their letters' case say the same. -/
theorem parts_case {a b : ByteArray} (h : lowB a = lowB b) : (partsF a).map lowB = (partsF b).map lowB := by
  rw [← parts_low a.size a (Nat.le_refl _), ← parts_low b.size b (Nat.le_refl _), h]
theorem flat_case : ∀ {l m : List ByteArray}, l.map lowB = m.map lowB → (l.flatMap partsF).map lowB = (m.flatMap partsF).map lowB
  | [], [], _ => rfl
  | [], _ :: _, h => by cases h
  | _ :: _, [], h => by cases h
  | a :: l, b :: m, h => by
    rw [List.map_cons, List.map_cons] at h
    injection h with h1 h2
    rw [List.flatMap_cons, List.flatMap_cons, List.map_append, List.map_append, parts_case h1, flat_case h2]
theorem all_named {n : ByteArray} (hn : sameF n.data.toList cacheN.data.toList = true) (m : List ByteArray) : allF cacheN (fieldsO n m) = m := by
  unfold allF fieldsO
  rw [List.filter_eq_self.2 (by
    intro f hf
    obtain ⟨x, _, rfl⟩ := List.mem_map.1 hf
    exact hn), List.map_map]
  exact List.map_id m
theorem parse_named {n : ByteArray} (hn : sameF n.data.toList cacheN.data.toList = true) (m : List ByteArray) : parseF (fieldsO n m) = ctlL (m.flatMap partsF) := by
  unfold parseF listF
  rw [all_named hn]
  split
  · rename_i h0
    subst h0
    rfl
  · rfl
theorem parse_case {n n' : ByteArray} (hn : sameF n.data.toList cacheN.data.toList = true) (hn' : sameF n'.data.toList cacheN.data.toList = true) {l m : List ByteArray} (h : l.map lowB = m.map lowB) : parseF (fieldsO n l) = parseF (fieldsO n' m) := by
  rw [parse_named hn, parse_named hn', ← fold_low, flat_case h, fold_low]
def pragmaP : ByteArray × ByteArray := (⟨#[80, 82, 65, 71, 77, 65]⟩, ⟨#[120, 44, 32, 78, 111, 45, 67, 97, 99, 104, 101]⟩)
/-- With a Cache-Control there, Pragma says nothing. -/
theorem parse_pragma {n : ByteArray} (hn : sameF n.data.toList cacheN.data.toList = true) {m : List ByteArray} (h : m ≠ []) : parseF (fieldsO n m ++ [pragmaP]) = parseF (fieldsO n m) := by
  have ha : allF cacheN (fieldsO n m ++ [pragmaP]) = m := by
    have e := all_named hn m
    unfold allF at e ⊢
    rw [List.filter_append, List.map_append, e]
    have : isNamed cacheN pragmaP = false := by decide +kernel
    simp [this]
  unfold parseF listF
  rw [ha, all_named hn, if_neg h, if_neg h]
/-- Without any, it counts. -/
theorem pragma_one : (parseF [pragmaP]).noCache = true := by
  have h1 : allF cacheN [pragmaP] = [] := by
    unfold allF
    have : isNamed cacheN pragmaP = false := by decide +kernel
    simp [this]
  have h2 : allF pragmaN [pragmaP] = [pragmaP.2] := by
    unfold allF
    have : isNamed pragmaN pragmaP = true := by decide +kernel
    simp [this]
  have h3 : partsF pragmaP.2 = [⟨#[120]⟩, ⟨#[78, 111, 45, 67, 97, 99, 104, 101]⟩] := by
    have := parts_join [⟨#[120]⟩, ⟨#[78, 111, 45, 67, 97, 99, 104, 101]⟩] (by
      intro y hy
      simp only [List.mem_cons, List.not_mem_nil, or_false] at hy
      rcases hy with rfl | rfl
      · exact item_lit rfl
      · exact item_lit rfl)
    rw [← this]
    rfl
  unfold parseF
  rw [if_pos h1]
  show elder (listF pragmaN [pragmaP]) = true
  unfold listF
  rw [h2]
  show elder (partsF pragmaP.2 ++ []) = true
  rw [List.append_nil, h3]
  decide +kernel
end Go.Proofs.YtkpkpfolgbpjbaaDoor
namespace Go.Proofs.YtkpkpfolgbpjbaaDoor
open Go.RowKit HeadMath HeadS

def cacheC : ByteArray := ⟨#[99, 97, 99, 104, 101, 45, 67, 79, 78, 84, 82, 79, 76]⟩
theorem flip_len (M : List UInt8) (pad : Nat) : (mixRow M 0 pad).size = M.length + pad := by simp [mixRow, mixL_zero]
theorem flip_get {M : List UInt8} {pad k : Nat} (h : k < M.length) : (mixRow M 0 pad)[k]? = some (.int .u8 (M[k].toNat : Int)) := by
  rw [mixRow_get _ _ _ _ h, if_neg (Nat.not_lt_zero _)]
theorem flip_set {M : List UInt8} {pad k : Nat} (h : k < M.length) (c : UInt8) : (mixRow M 0 pad).setIfInBounds k (.int .u8 (c.toNat : Int)) = mixRow (M.set k c) 0 pad := by
  apply Array.ext_getElem?
  intro i
  rw [Array.getElem?_setIfInBounds]
  by_cases hik : k = i
  · subst hik
    rw [if_pos rfl, if_pos (by rw [flip_len]; omega), flip_get (by rw [List.length_set]; exact h)]
    simp
  · rw [if_neg hik]
    unfold mixRow
    rw [mixL_zero, mixL_zero]
    by_cases hi : i < M.length
    · rw [Array.getElem?_append_left (by simpa using hi), Array.getElem?_append_left (by simpa using hi)]
      simp [List.getElem_set, hik, hi]
    · rw [Array.getElem?_append_right (by simpa using hi), Array.getElem?_append_right (by simpa using hi)]
      simp
theorem up_low {c : UInt8} (h1 : 97 ≤ c.toNat) (h2 : c.toNat ≤ 122) : small (c - 32) = small c ∧ ((c - 32 : UInt8).toNat : Int) = (c.toNat : Int) - 32 := by
  have hs : (c - 32 : UInt8).toNat = c.toNat - 32 := by
    rw [UInt8.toNat_sub_of_le]
    · rfl
    · rw [UInt8.le_iff_toNat_le]; show 32 ≤ c.toNat; omega
  refine ⟨?_, by rw [hs]; omega⟩
  have h3 := small_up (c := c - 32) (by rw [hs]; omega)
  rw [small_other (c := c) (by omega)]
  apply UInt8.toNat_inj.1
  rw [h3, hs]
  omega
theorem low_set {M : List UInt8} {k : Nat} (h : k < M.length) {c : UInt8} (hc : small c = small M[k]) : lowF (M.set k c) = lowF M := by
  unfold lowF
  rw [List.map_set, hc]
  apply List.ext_getElem (by simp)
  intro i h1 h2
  rw [List.getElem_set]
  split
  · rename_i e; subst e; simp
  · rfl
theorem flip_conv {w : World} {g pad cap : Nat} {r : Nat × Nat} {M : List UInt8} (h : MBlk w g 5 (mixRow M 0 pad) r) :
    (convert 38 9 (.slice (some ⟨g, 0, none⟩) M.length cap)).run Tryd.prog w = .ok (.string ⟨M.toArray⟩) w :=
  run_convert_bytes_back (P := Tryd.prog) w 38 9 5 ⟨g, 0, none⟩ cap M Tryd.underlying38 Tryd.underlying5 Tryd.underlying9 (fun j hj => by
    have e : (⟨g, 0, none⟩ : Addr).add j = ⟨g, j, none⟩ := by unfold Addr.add; by_cases h0 : j = 0 <;> simp [h0]
    rw [e, h.cell j, flip_get hj])
/-- Two rows of fields, at or behind B, apart from one another. -/
structure Pair (B : Nat) (w : World) (va vb : Value) (ka kb : Nat) (A M : List ByteArray) : Prop where
  ra : w.ownsRow 0 29 2 va ka (fieldCells (fieldsO cacheN A))
  rb : w.ownsRow 0 29 2 vb kb (fieldCells (fieldsO cacheC M))
  na : ∀ g, va.ownBlock = some g → B ≤ g ∧ vb.ownBlock ≠ some g
  nb : ∀ g, vb.ownBlock = some g → B ≤ g
theorem Pair.spares {B : Nat} {F : Nat → Prop} {w w' : World} {va vb : Value} {ka kb : Nat} {A M : List ByteArray} (h : Pair B w va vb ka kb A M) (hs : Spares F w w') (hn : ∀ g, F g → va.ownBlock ≠ some g ∧ vb.ownBlock ≠ some g) : Pair B w' va vb ka kb A M :=
  ⟨hs.own h.ra (fun g hg hf => (hn g hf).1 hg), hs.own h.rb (fun g hg hf => (hn g hf).2 hg), h.na, h.nb⟩
theorem Pair.stepA {B : Nat} {w w' : World} {va vb v' : Value} {ka kb : Nat} {A M : List ByteArray} {x : ByteArray} (h : Pair B w va vb ka kb A M) (hB : B ≤ w.heap.size)
    (ho : w'.ownsRow 0 29 2 v' (ka + 1) (fieldCells (fieldsO cacheN A) ++ [.string cacheN, .string x])) (hg : w.grownBy w' va.ownBlock) (hl : ∀ g, v'.ownBlock = some g → va.ownBlock = some g ∨ w.heap.size ≤ g) :
    Pair B w' v' vb (ka + 1) kb (A ++ [x]) M := by
  have hs : Spares (fun b => va.ownBlock = some b) w w' := (Spares.refl _ w).grown hg (fun k hk => .inl hk)
  refine ⟨by rw [fields_snoc]; exact ho, hs.own h.rb (fun g hg hf => (h.na g hf).2 hg), fun g hg => ?_, h.nb⟩
  rcases hl g hg with h1 | h1
  · exact h.na g h1
  · exact ⟨Nat.le_trans hB h1, fun e => by have := (World.ownsRow.lt h.rb g e).2; omega⟩
theorem Pair.stepB {B : Nat} {w w' : World} {va vb v' : Value} {ka kb : Nat} {A M : List ByteArray} {x : ByteArray} (h : Pair B w va vb ka kb A M) (hB : B ≤ w.heap.size)
    (ho : w'.ownsRow 0 29 2 v' (kb + 1) (fieldCells (fieldsO cacheC M) ++ [.string cacheC, .string x])) (hg : w.grownBy w' vb.ownBlock) (hl : ∀ g, v'.ownBlock = some g → vb.ownBlock = some g ∨ w.heap.size ≤ g) :
    Pair B w' va v' ka (kb + 1) A (M ++ [x]) := by
  have hs : Spares (fun b => vb.ownBlock = some b) w w' := (Spares.refl _ w).grown hg (fun k hk => .inl hk)
  refine ⟨hs.own h.ra (fun g hg hf => (h.na g hg).2 hf), by rw [fields_snoc]; exact ho, fun g hg => ⟨(h.na g hg).1, fun e => ?_⟩, fun g hg => ?_⟩
  · rcases hl g e with h1 | h1
    · exact (h.na g hg).2 h1
    · have := (World.ownsRow.lt h.ra g hg).2; omega
  · rcases hl g hg with h1 | h1
    · exact h.nb g h1
    · exact Nat.le_trans hB h1
/-- The field's two cells, in the block that was just made. -/
theorem field_new (w : World) (n x : ByteArray) : ∀ j u, [Value.string n, Value.string x][j]? = some u → (w.alloc (.cells #[.string n, .string x] 29)).cell? ((⟨w.heap.size, 0, none⟩ : Addr).add j) = some u := by
  intro j u hj
  match j, hj with
  | 0, hj => injection hj with hj; subst hj; simp [go_sem, Addr.add]
  | 1, hj => injection hj with hj; subst hj; simp [go_sem, Addr.add]
theorem cell_lt {w : World} {p : Addr} {v : Value} (h : w.cell? p = some v) : p.block < w.heap.size := by
  rcases Nat.lt_or_ge p.block w.heap.size with h1 | h1
  · exact h1
  · simp [World.cell?, Array.getElem?_eq_none h1] at h
theorem one_fields (w : World) (f : ByteArray × ByteArray) : FieldsIn (w.heap.size + 1) (w.alloc (.cells #[.string f.1, .string f.2] 29)) (some ⟨w.heap.size, 0, none⟩) [f] := k_fields w f.1 f.2
end Go.Proofs.YtkpkpfolgbpjbaaDoor
