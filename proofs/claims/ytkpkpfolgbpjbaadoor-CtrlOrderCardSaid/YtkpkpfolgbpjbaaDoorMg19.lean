/-
  CtrlWrites' walk.
  Parts in any order, in one field or in many, say the same.
  CtrlOrder's parts.
  What CtrlOrder's and CtrlCase's walks share: rows of texts and of fields in memory.
  A change of letters' case: what the parts say stays.
  Rows of CtrlCase: two rows of fields beside one another; a row of bytes whose letters are made great, one by one.
  CtrlCase's walk.
  A control that came in, opened; the table that is laid.
  A slice of fields that came in.
  CtrlOrder's walk.
  A slice of small numbers that came in.
-/
import Derived.Deep.RegionHeld3
import Derived.Deep.AppendLies
import Derived.OpenShut
import Derived.Lib.SmallJoins
import Derived.Deep.Fields
import Derived.Lib.LaidTab
import Derived.Test.YtkpkpfolgbpjbaaDoorRows
import Derived.ProofKit
import Derived.Test.YtkpkpfolgbpjbaaDoorMg18
import Derived.Test.YtkpkpfolgbpjbaaDoorMg20
import Derived.Test.YtkpkpfolgbpjbaaDoorMg21
import Derived.Test.YtkpkpfolgbpjbaaDoorMg22
namespace Go.Proofs.YtkpkpfolgbpjbaaDoor
open Go.RowKit HeadMath HeadS

def numsL (c : Ctl) : List Int := [c.maxA, c.sMax, c.minF, c.maxS]
theorem nums_fair {c : Ctl} (h : ∀ j (hj : j < (numsL c).length), -1 ≤ (numsL c)[j] ∧ (numsL c)[j] ≤ 2147483647) : c.fair :=
  ⟨h 0 (by show 0 < 4; omega), h 1 (by show 1 < 4; omega), h 2 (by show 2 < 4; omega), h 3 (by show 3 < 4; omega)⟩
theorem nums_at {w : World} {c : Ctl} {k : Nat} (hk : k < (numsL c).length) : (w.alloc (.cells #[.int .i64 c.maxA, .int .i64 c.sMax, .int .i64 c.minF, .int .i64 c.maxS] 2)).cell? ⟨w.heap.size, k, none⟩ = some (.int .i64 (numsL c)[k]) := by
  have e := heap_alloc_new w (.cells #[.int .i64 c.maxA, .int .i64 c.sMax, .int .i64 c.minF, .int .i64 c.maxS] 2)
  rw [Lib.cell_of_heap e]
  have h4 : (numsL c).length = 4 := rfl
  match k, hk with
  | 0, _ => rfl
  | 1, _ => rfl
  | 2, _ => rfl
  | 3, _ => rfl
  | k + 4, hk => omega
theorem few_one {t : ByteArray} (h : t.size ≤ 1000000) : FewF [(cacheL, t)] := by
  refine ⟨by show 1 ≤ 100000; omega, fun j hj => ?_⟩
  obtain rfl : j = 0 := by simpa using hj
  exact ⟨by show cacheL.size ≤ 1000000; decide, h⟩
set_option maxRecDepth 100000 in
set_option maxHeartbeats 16000000 in
theorem writes_any (c : Ctl) (w : World) (hc : c.wide) (ht : TabW w) (hw : 1 < w.heap.size) : Calls Tryd.prog 3 #[ctlV c] w (Yes w) := by
  obtain ⟨w0, hw0⟩ : ∃ w0, w.alloc (.cells #[.bool c.noStore, .bool c.noCache, .bool c.priv, .bool c.pub, .bool c.must, .bool c.prox, .bool c.only, .bool c.anyStale, .int .i64 c.maxA, .int .i64 c.sMax, .int .i64 c.minF, .int .i64 c.maxS] 23) = w0 := ⟨_, rfl⟩
  have hb0 : Below w.heap.size w w0 := by rw [← hw0]; exact ((Spares.refl nowhere w).alloc _).below0
  have hz0 : w0.heap.size = w.heap.size + 1 := by rw [← hw0]; simp
  have hc0 : CtlAt w0 w.heap.size c := by
    unfold CtlAt
    rw [← hw0]
    exact heap_alloc_new w _
  have HK : Hid (∀ x, Below w0.heap.size w0 x → (CtlAt x w.heap.size c ∧ TabW x ∧ 1 < x.heap.size) ∧ Below w.heap.size w x) := Lib.hid (fun x hx => by
    have hbx := hb0.trans (hx.mono (by omega))
    exact ⟨⟨(hx.block _ (by omega)).trans hc0, ht.below hbx, by have := hbx.size; omega⟩, hbx⟩)
  have HW0 := Lib.hid hw0
  have HCW := Lib.hid hc
  have hx0 := HK.out w0 (Below.refl _ _)
  have HX0 := Lib.hid hx0
  obtain ⟨t, htx⟩ : ∃ t : ByteArray, (⟨(textF c).toArray⟩ : ByteArray) = t := ⟨_, rfl⟩
  have HTX : Hid (t = outB (itemsF c)) := Lib.hid htx.symm
  have htz : t.size ≤ 1488 := by
    have := text_len c
    rw [← htx]
    show (textF c).toArray.size ≤ 1488
    simpa using this
  have cT := fun x hx => text_any c x hc (HK.out x hx).1.2.1 (HK.out x hx).1.2.2
  have cR := fun x => refText_any c x
  unfold TextPost at cT cR
  simp only [htx] at cT cR
  have CT := Lib.hid cT
  have CR := Lib.hid cR
  have hself : (t.toList == t.toList) = true := beq_self_eq_true _
  have HNUM := Lib.hid (fun (x : World) (k : Nat) (hk : k < (numsL c).length) => nums_at (w := x) hk)
  clear hw0 hb0 hz0 hc0 hc ht hw hx0 htx cT cR
  unfold ctlV at CT CR ⊢
  unfold Yes
  go_enter Tryd.func3, Tryd.ntmps3
  go_wp2_with fail
  change Calls _ _ _ (w.alloc (.cells #[.bool c.noStore, .bool c.noCache, .bool c.priv, .bool c.pub, .bool c.must, .bool c.prox, .bool c.only, .bool c.anyStale, .int .i64 c.maxA, .int .i64 c.sMax, .int .i64 c.minF, .int .i64 c.maxS] 23)) _
  rw [HW0.out]
  refine (known_any w0 HX0.out.1.2.1 HX0.out.1.2.2).mono ?_
  rintro e w1 ⟨rfl, hb1⟩
  have HB1 := Lib.hid hb1
  obtain ⟨n0, n1, n2, n3, n4, n5, n6, n7, n8, n9, n10, n11⟩ := ctl_reads (HK.out w1 hb1).1.1
  clear hb1
  go_wp2_with fail
  refine (CT.out w1 HB1.out).mono ?_
  rintro e w2 ⟨rfl, hb2⟩
  have HB2 := Lib.hid (HB1.out.trans (hb2.mono HB1.out.size))
  clear n0 n1 n2 n3 n4 n5 n6 n7 n8 n9 n10 n11 hb2
  obtain ⟨n0, n1, n2, n3, n4, n5, n6, n7, n8, n9, n10, n11⟩ := ctl_reads (HK.out w2 HB2.out).1.1
  go_wp2_with fail
  refine (CR.out w2).mono ?_
  rintro e w3 ⟨rfl, hb3⟩
  have HB3 := Lib.hid (HB2.out.trans (hb3.mono HB2.out.size))
  clear n0 n1 n2 n3 n4 n5 n6 n7 n8 n9 n10 n11 hb3
  have hk3 := HK.out w3 HB3.out
  obtain ⟨n0, n1, n2, n3, n4, n5, n6, n7, n8, n9, n10, n11⟩ := ctl_reads hk3.1.1
  obtain ⟨v, hv⟩ : ∃ v, w3.alloc (.cells #[.int .i64 c.maxA, .int .i64 c.sMax, .int .i64 c.minF, .int .i64 c.maxS] 2) = v := ⟨_, rfl⟩
  have hbv : Below w0.heap.size w0 v := by rw [← hv]; exact HB3.out.alloc HB3.out.size _
  have hnv : ∀ k (hk : k < (numsL c).length), v.cell? ⟨w3.heap.size, k, none⟩ = some (.int .i64 (numsL c)[k]) := fun k hk => by rw [← hv]; exact HNUM.out w3 k hk
  have HNV := Lib.hid hnv
  have HV := Lib.hid hv
  have HBV := Lib.hid hbv
  obtain ⟨ns, hns⟩ : ∃ ns, numsL c = ns := ⟨_, rfl⟩
  have hn4 : ns.length = 4 := by rw [← hns]; rfl
  have HFAIR : Hid ((∀ j (hj : j < ns.length), -1 ≤ ns[j] ∧ ns[j] ≤ 2147483647) → c.fair) := Lib.hid (by subst hns; exact nums_fair)
  rw [hns] at HNV
  clear hv hbv hnv hk3 hns HNUM
  go_wp2
  change Code.wp _ _ _ _ (w3.alloc (.cells #[.int .i64 c.maxA, .int .i64 c.sMax, .int .i64 c.minF, .int .i64 c.maxS] 2))
  rw [HV.out]
  clear n0 n1 n2 n3 n4 n5 n6 n7 n8 n9 n10 n11
  go_loop [5] (fun i => ∃ k : Nat, k ≤ 4 ∧ i = .int .i64 k ∧ Hid (∀ j (hj : j < ns.length), j < k → -1 ≤ ns[j] ∧ ns[j] ≤ 2147483647)) (fun i => 4 - (intOf i).toNat)
  case atStart => exact ⟨0, by omega, rfl, Lib.hid (fun j _ h => absurd h (Nat.not_lt_zero _))⟩
  case round =>
    obtain ⟨k, hk, rfl, HA⟩ := hrel
    by_cases hk4 : k < 4
    · have hkl : k < ns.length := by omega
      have x0 := HNV.out k hkl
      obtain ⟨n, hn⟩ : ∃ n, ns[k] = n := ⟨_, rfl⟩
      rw [hn] at x0
      by_cases h1 : n < -1
      · have HF := Lib.hid (HK.out v HBV.out).2
        go_wp2
        go_ret
        exact ⟨rfl, HF.out⟩
      · by_cases h2 : 2147483647 < n
        · have HF := Lib.hid (HK.out v HBV.out).2
          go_wp2
          go_ret
          exact ⟨rfl, HF.out⟩
        · have HN : Hid (∀ j (hj : j < ns.length), j < k + 1 → -1 ≤ ns[j] ∧ ns[j] ≤ 2147483647) := Lib.hid (fun j hj hjk => by
            rcases Nat.lt_or_ge j k with h | h
            · exact HA.out j hj h
            · obtain rfl : j = k := by omega
              rw [hn]
              exact ⟨by omega, by omega⟩)
          clear hn
          go_wp2
          go_round
          case rel => exact ⟨k + 1, by omega, by go_num, HN⟩
          case measure => simp [intOf]; omega
    · have hfair := HFAIR.out (fun j hj => HA.out j hj (by omega))
      have HPB := Lib.hid (parse_back hfair t HTX.out)
      have HFV := Lib.hid (HK.out v HBV.out)
      clear hfair
      cases hte : t.toList.isEmpty with
      | true =>
        go_wp2
        go_ret
        exact ⟨rfl, HFV.out.2⟩
      | false =>
        have s0 := ctl_reads (HK.out v.drew HBV.out.drew).1.1
        go_wp2
        have hlt : w.heap.size < v.heap.size := (Array.getElem?_eq_some_iff.1 HFV.out.1.1).1
        have cP := fun x (hx : Below v.heap.size v x) (hin : FieldsIn x.heap.size x (some ⟨v.heap.size, 0, none⟩) [(cacheL, t)]) => parse_any [(cacheL, t)] (some ⟨v.heap.size, 0, none⟩) 1 x hin (few_one (by omega))
        unfold ParsePost at cP
        rw [HPB.out] at cP
        have CP := Lib.hid cP
        have hin : FieldsIn (v.alloc (.cells #[.string cacheL, .string t] 29)).drew.heap.size (v.alloc (.cells #[.string cacheL, .string t] 29)).drew (some ⟨v.heap.size, 0, none⟩) [(cacheL, t)] := by
          have := k_fields v cacheL t
          intro j hj
          obtain ⟨b, off, h1, h2, h3, h4⟩ := this j hj
          exact ⟨b, off, h1, by show b < (v.alloc _).heap.size; simp; omega, h3, h4⟩
        have hbd : Below v.heap.size v (v.alloc (.cells #[.string cacheL, .string t] 29)).drew := ((Below.refl _ v).alloc (Nat.le_refl _) _).drew
        have CPX := Lib.hid (CP.out _ hbd hin)
        have HBD := Lib.hid hbd
        have s1 := ctl_reads (HK.out _ (HBV.out.trans (hbd.mono HBV.out.size))).1.1
        clear cP hin hbd
        unfold ctlV at CPX
        go_region_held3 (fun w' => w'.cell? ⟨w.heap.size, 0, none⟩ = some (.bool c.noStore) ∧ w'.cell? ⟨w.heap.size, 1, none⟩ = some (.bool c.noCache) ∧ w'.cell? ⟨w.heap.size, 2, none⟩ = some (.bool c.priv) ∧ w'.cell? ⟨w.heap.size, 3, none⟩ = some (.bool c.pub) ∧ w'.cell? ⟨w.heap.size, 4, none⟩ = some (.bool c.must) ∧ w'.cell? ⟨w.heap.size, 5, none⟩ = some (.bool c.prox) ∧ w'.cell? ⟨w.heap.size, 6, none⟩ = some (.bool c.only) ∧ w'.cell? ⟨w.heap.size, 7, none⟩ = some (.bool c.anyStale) ∧ w'.cell? ⟨w.heap.size, 8, none⟩ = some (.int .i64 c.maxA) ∧ w'.cell? ⟨w.heap.size, 9, none⟩ = some (.int .i64 c.sMax) ∧ w'.cell? ⟨w.heap.size, 10, none⟩ = some (.int .i64 c.minF) ∧ w'.cell? ⟨w.heap.size, 11, none⟩ = some (.int .i64 c.maxS)) (first | exact s2 | exact s1 | exact s0 | go_keep)
          (first
            | (go_simp
               go_at_call 13
               refine CPX.out.mono ?_
               rintro e w5 ⟨rfl, hb5⟩
               have HB5 := Lib.hid (HBV.out.trans ((HBD.out.trans (hb5.mono HBD.out.size)).mono HBV.out.size))
               have s2 := ctl_reads (HK.out w5 HB5.out).1.1))
        all_goals
          have hfin := (HK.out w5 HB5.out).2
          clear s0 s1 s2
          go_wp2
          go_ret
          exact ⟨rfl, hfin⟩
end Go.Proofs.YtkpkpfolgbpjbaaDoor
namespace Go.Proofs.YtkpkpfolgbpjbaaDoor
open Go.RowKit HeadMath HeadS

theorem least_comm {o a b : Int} (ha : 0 ≤ a) (hb : 0 ≤ b) : leastF (leastF o a) b = leastF (leastF o b) a := by
  unfold leastF
  repeat' split
  all_goals omega
/-- The four numbers and the eight flags, each by itself. -/
theorem act_comm {k k' : Nat} {h h' : Bool} {n n' : Int} (hn : 0 ≤ n) (hn' : 0 ≤ n') (c : Ctl) : actK k h n (actK k' h' n' c) = actK k' h' n' (actK k h n c) := by
  have L := @least_comm
  match k, k' with
  | 0, 0 | 0, 1 | 0, 2 | 0, 3 | 0, 4 | 0, 5 | 0, 6 | 0, 7 | 0, 8 | 0, 9 => rfl
  | 1, 0 | 1, 1 | 1, 2 | 1, 3 | 1, 4 | 1, 5 | 1, 6 | 1, 7 | 1, 8 | 1, 9 => rfl
  | 2, 0 | 2, 1 | 2, 2 | 2, 3 | 2, 4 | 2, 5 | 2, 6 | 2, 7 | 2, 8 | 2, 9 => rfl
  | 3, 0 | 3, 1 | 3, 2 | 3, 3 | 3, 4 | 3, 5 | 3, 6 | 3, 7 | 3, 8 | 3, 9 => rfl
  | 4, 0 | 4, 1 | 4, 2 | 4, 3 | 4, 4 | 4, 5 | 4, 6 | 4, 7 | 4, 8 | 4, 9 => rfl
  | 5, 0 | 5, 1 | 5, 2 | 5, 3 | 5, 4 | 5, 5 | 5, 6 | 5, 7 | 5, 8 | 5, 9 => rfl
  | 6, 0 | 6, 1 | 6, 2 | 6, 3 | 6, 4 | 6, 5 | 6, 6 | 6, 7 | 6, 8 | 6, 9 => rfl
  | 7, 0 | 7, 1 | 7, 2 | 7, 3 | 7, 4 | 7, 5 | 7, 6 | 7, 8 | 7, 9 => rfl
  | 8, 0 | 8, 1 | 8, 2 | 8, 3 | 8, 4 | 8, 5 | 8, 6 | 8, 7 | 8, 9 => rfl
  | 9, 0 | 9, 1 | 9, 2 | 9, 3 | 9, 4 | 9, 5 | 9, 6 | 9, 7 | 9, 8 => rfl
  | 7, 7 => simp only [actK]; rw [L hn' hn]
  | 8, 8 => simp only [actK]; rw [L hn' hn]
  | 9, 9 => simp only [actK]; rw [L hn' hn]
  | 10, 0 | 10, 1 | 10, 2 | 10, 3 | 10, 4 | 10, 5 | 10, 6 | 10, 7 | 10, 8 | 10, 9 => cases h <;> rfl
  | 0, 10 | 1, 10 | 2, 10 | 3, 10 | 4, 10 | 5, 10 | 6, 10 | 7, 10 | 8, 10 | 9, 10 => cases h' <;> rfl
  | 10, 10 =>
    cases h <;> cases h'
    · rfl
    · rfl
    · rfl
    · simp only [actK, if_true]; rw [L hn' hn]
  | k + 11, k' => rfl
  | k, k' + 11 => rfl
theorem say_comm (c : Ctl) (a b : ByteArray) : sayF (sayF c a) b = sayF (sayF c b) a := act_comm (valSec_in _).1 (valSec_in _).1 c
theorem fold_perm {l m : List ByteArray} (h : l.Perm m) : ctlL l = ctlL m := by
  unfold ctlL
  generalize ctl0 = c
  induction h generalizing c with
  | nil => rfl
  | cons x _ ih => exact ih _
  | swap x y l => show l.foldl sayF (sayF (sayF c y) x) = l.foldl sayF (sayF (sayF c x) y); rw [say_comm]
  | trans _ _ ih1 ih2 => exact (ih1 c).trans (ih2 c)
/-- A part that a list takes as it stands. -/
def PartC (x : ByteArray) : Prop := x.data.toList ≠ [] ∧ Closed x.data.toList ∧ Bare x.data.toList
theorem told_part {x : ByteArray} (h : PartC x) : told (arr x.data.toList) = [x] := by
  have e : arr x.data.toList = x := rfl
  rw [e]
  unfold told
  rw [if_neg]
  intro h0
  rw [← size_list] at h0
  exact h.1 (List.eq_nil_of_length_eq_zero h0)
/-- The parts behind the first, each with a space and a comma ahead. -/
def tailO : List ByteArray → List UInt8
  | [] => []
  | y :: r => [32, 44] ++ (y.data.toList ++ tailO r)
def joinO : List ByteArray → List UInt8
  | [] => []
  | x :: r => x.data.toList ++ tailO r
theorem parts_order : ∀ (r : List ByteArray) (x : ByteArray), PartC x → (∀ y ∈ r, PartC y) → partsF (arr (x.data.toList ++ tailO r)) = x :: r
  | [], x, hx, _ => by
    show partsF (arr (x.data.toList ++ [])) = _
    have ht := trimF_of (u := []) (x := x.data.toList) (v := []) (fun c h => by cases h) (fun c h => by cases h) hx.2.2
    rw [List.nil_append, List.append_nil] at ht
    rw [parts_step _ [] [] hx.2.1 (.inl ⟨rfl, rfl⟩), ht, told_part hx, partsF_nil (v := arr []) rfl]
    rfl
  | y :: r, x, hx, hr => by
    have ht := trimF_of (u := []) (x := x.data.toList) (v := [32]) (fun c h => by cases h) (by decide) hx.2.2
    rw [List.nil_append] at ht
    have hc : Closed (x.data.toList ++ [32]) := Closed.append hx.2.1 (plain_closed rfl)
    have e : x.data.toList ++ tailO (y :: r) = (x.data.toList ++ [32]) ++ 44 :: (y.data.toList ++ tailO r) := by simp [tailO]
    rw [e, parts_step _ _ _ hc (.inr rfl), ht, told_part hx, parts_order r y (hr y (by simp)) (fun z hz => hr z (by simp [hz]))]
    rfl
theorem parts_joinO : ∀ (l : List ByteArray), (∀ y ∈ l, PartC y) → partsF (arr (joinO l)) = l
  | [], _ => partsF_nil (v := arr []) rfl
  | x :: r, h => parts_order r x (h x (by simp)) (fun z hz => h z (by simp [hz]))
theorem parts_one {x : ByteArray} (h : PartC x) : partsF x = [x] := by
  have := parts_order [] x h (fun _ h => by cases h)
  rwa [show tailO [] = [] from rfl, List.append_nil] at this
theorem tailO_snoc : ∀ (r : List ByteArray) (y : ByteArray), tailO (r ++ [y]) = tailO r ++ ([32, 44] ++ y.data.toList)
  | [], y => by simp [tailO]
  | x :: r, y => by rw [List.cons_append, tailO, tailO_snoc r y, tailO]; simp
theorem joinO_snoc (l : List ByteArray) (y : ByteArray) (h : l ≠ []) : joinO (l ++ [y]) = joinO l ++ ([32, 44] ++ y.data.toList) := by
  cases l with
  | nil => exact absurd rfl h
  | cons x r => rw [List.cons_append, joinO, tailO_snoc, joinO]; simp
/-- In one field. -/
theorem parse_one {l : List ByteArray} (h : ∀ y ∈ l, PartC y) (t : ByteArray) (ht : t = arr (joinO l)) : parseF [(cacheN, t)] = ctlL l := by
  have ha : allF cacheN [(cacheN, t)] = [t] := by
    unfold allF
    have : isNamed cacheN (cacheN, t) = true := by show sameF cacheN.data.toList cacheN.data.toList = true; decide +kernel
    simp [this]
  unfold parseF
  rw [ha, if_neg (by simp)]
  unfold listF
  rw [ha]
  show ctlL (partsF t ++ []) = _
  rw [List.append_nil, ht, parts_joinO l h]
/-- In many fields. -/
def fieldsO (n : ByteArray) (m : List ByteArray) : List (ByteArray × ByteArray) := m.map fun x => (n, x)
theorem parse_many {n : ByteArray} (hn : sameF n.data.toList cacheN.data.toList = true) {m : List ByteArray} (h : ∀ y ∈ m, PartC y) : parseF (fieldsO n m) = ctlL m := by
  have ha : allF cacheN (fieldsO n m) = m := by
    unfold allF fieldsO
    rw [List.filter_eq_self.2 (by
      intro f hf
      obtain ⟨x, _, rfl⟩ := List.mem_map.1 hf
      exact hn), List.map_map]
    exact List.map_id m
  have hl : listF cacheN (fieldsO n m) = m := by
    unfold listF
    rw [ha]
    clear ha
    induction m with
    | nil => rfl
    | cons x m ih => rw [List.flatMap_cons, parts_one (h x (by simp)), ih (fun y hy => h y (by simp [hy]))]; rfl
  unfold parseF
  rw [ha, hl]
  split
  · rename_i h0
    subst h0
    rfl
  · rfl
/-- Turned about: from place q on, and then from the beginning. -/
theorem turned (l : List ByteArray) (q : Nat) (hq : q ≤ l.length) : (l.drop q ++ l.take q).Perm l := by
  have := List.perm_append_comm (l₁ := l.drop q) (l₂ := l.take q)
  rwa [List.take_append_drop] at this
theorem turned_at (l : List ByteArray) (q i : Nat) (hq : q < l.length) (hi : i < l.length) : (l.drop q ++ l.take q)[i]? = l[(i + q) % l.length]? := by
  by_cases h : i < l.length - q
  · rw [List.getElem?_append_left (by rw [List.length_drop]; exact h), List.getElem?_drop, Nat.mod_eq_of_lt (by omega), Nat.add_comm]
  · rw [List.getElem?_append_right (by rw [List.length_drop]; omega), List.length_drop, List.getElem?_take, if_pos (by omega)]
    have e : (i + q) % l.length = i + q - l.length := by
      rw [Nat.mod_eq_sub_mod (by omega), Nat.mod_eq_of_lt (by omega)]
    rw [e]
    congr 1
    omega
end Go.Proofs.YtkpkpfolgbpjbaaDoor
namespace Go.Proofs.YtkpkpfolgbpjbaaDoor
open Go.RowKit HeadMath HeadS

set_option maxRecDepth 100000 in
set_option maxHeartbeats 4000000 in
theorem digits_any : ∀ (f n : Nat) (w : World), n < f → n ≤ 65535 → Calls Tryd.prog 14 #[.int .u16 n] w (DecPost n w) := by
  intro f
  induction f with
  | zero => intro n w h; omega
  | succ f ih =>
    intro n w hf hn
    unfold DecPost
    by_cases h10 : n < 10
    · have HD := Lib.hid (one_digit n h10)
      go_enter Tryd.func14, Tryd.ntmps14
      go_wp2
      go_ret
      exact ⟨by rw [← HD.out]; rfl, rfl⟩
    · have HD : Hid ((⟨(Lib.decDigits (n / 10)).toArray⟩ : ByteArray) ++ ⟨(Lib.decDigits (n % 10)).toArray⟩ = ⟨(Lib.decDigits n).toArray⟩) := Lib.hid (by
        rw [Lib.decDigits_one (show n % 10 < 10 by omega)]
        apply bytes_injC
        rw [ByteArray.data_append, show Lib.decDigits n = Lib.decDigits (n / 10) ++ [UInt8.ofNat (48 + n % 10)] from by rw [Lib.decDigits, dif_neg h10]]
        simp)
      have c1 := fun w => ih (n / 10) w (by omega) (by omega)
      have c2 := fun w => ih (n % 10) w (by omega) (by omega)
      unfold DecPost at c1 c2
      have z1 : (⟨(Lib.decDigits (n / 10)).toArray⟩ : ByteArray).size ≤ 21 := by
        show (Lib.decDigits (n / 10)).toArray.size ≤ 21
        simpa using dec_len (n / 10) (by omega)
      have z2 : (⟨(Lib.decDigits (n % 10)).toArray⟩ : ByteArray).size ≤ 21 := by
        show (Lib.decDigits (n % 10)).toArray.size ≤ 21
        simpa using dec_len (n % 10) (by omega)
      obtain ⟨a, ha⟩ : ∃ a : ByteArray, (⟨(Lib.decDigits (n / 10)).toArray⟩ : ByteArray) = a := ⟨_, rfl⟩
      obtain ⟨b, hb⟩ : ∃ b : ByteArray, (⟨(Lib.decDigits (n % 10)).toArray⟩ : ByteArray) = b := ⟨_, rfl⟩
      simp only [ha] at c1 z1 HD
      simp only [hb] at c2 z2 HD
      clear ih ha hb
      have e1 : (n : Int).tdiv 10 = ((n / 10 : Nat) : Int) := by rw [Int.tdiv_eq_ediv_of_nonneg (by omega)]; omega
      have e2 : (n : Int).tmod 10 = ((n % 10 : Nat) : Int) := by rw [Int.tmod_eq_emod_of_nonneg (by omega)]; omega
      go_enter Tryd.func14, Tryd.ntmps14
      go_wp2_with fail
      refine (c1 w).mono ?_
      rintro e w1 ⟨rfl, rfl⟩
      go_wp2_with fail
      refine (c2 w1).mono ?_
      rintro e w2 ⟨rfl, rfl⟩
      go_wp2
      go_ret
      exact ⟨by rw [← HD.out]; rfl, rfl⟩
def preA : Nat → ByteArray
  | 0 => ⟨#[109, 97, 120, 45, 97, 103, 101, 61]⟩
  | 1 => ⟨#[115, 45, 109, 97, 120, 97, 103, 101, 61]⟩
  | 2 => ⟨#[109, 105, 110, 45, 102, 114, 101, 115, 104, 61]⟩
  | _ => ⟨#[109, 97, 120, 45, 115, 116, 97, 108, 101, 61]⟩
def partA (n : Nat) : ByteArray := preA (n % 4) ++ ⟨(Lib.decDigits (n / 4)).toArray⟩
def partB (n : Nat) : ByteArray := match n % 6 with
  | 0 => ⟨#[110, 111, 45, 115, 116, 111, 114, 101]⟩
  | 1 => ⟨#[78, 111, 45, 67, 97, 99, 104, 101]⟩
  | 2 => ⟨#[112, 114, 105, 118, 97, 116, 101, 61, 34, 120, 44, 32, 121, 34]⟩
  | 3 => ⟨#[112, 117, 98, 108, 105, 99]⟩
  | 4 => ⟨#[109, 117, 115, 116, 45, 114, 101, 118, 97, 108, 105, 100, 97, 116, 101]⟩
  | _ => ⟨#[111, 116, 104, 101, 114, 61, 49]⟩
theorem item_part {x : ByteArray} (h : ItemB x) : PartC x := ⟨h.1, Closed.plain fun c hc => (h.2 c hc).1, item_bare h⟩
theorem partA_ok (n : Nat) (hn : n ≤ 65535) : PartC (partA n) := by
  refine item_part ?_
  have hd := (fold_digits (n / 4 + 1) (n / 4) (by omega) (by omega)).1
  have hl : (partA n).data.toList = (preA (n % 4)).data.toList ++ Lib.decDigits (n / 4) := by
    unfold partA
    rw [ByteArray.data_append]
    simp
  have hp : ItemB (preA (n % 4)) := by
    match n % 4 with
    | 0 => exact item_lit rfl
    | 1 => exact item_lit rfl
    | 2 => exact item_lit rfl
    | _ + 3 => exact item_lit rfl
  refine ⟨by rw [hl]; intro h; exact hp.1 (List.append_eq_nil_iff.1 h).1, fun c hc => ?_⟩
  rw [hl] at hc
  rcases List.mem_append.1 hc with h | h
  · exact hp.2 c h
  · have := List.all_eq_true.1 hd c h
    unfold digitB at this
    rw [decide_eq_true_iff] at this
    refine ⟨⟨fun e => ?_, fun e => ?_⟩, ?_⟩
    · subst e; exact absurd this (by decide)
    · subst e; exact absurd this (by decide)
    · unfold blankB
      rw [Bool.or_eq_false_iff, beq_eq_false_iff_ne, beq_eq_false_iff_ne]
      refine ⟨fun e => ?_, fun e => ?_⟩
      · subst e; exact absurd this (by decide)
      · subst e; exact absurd this (by decide)
theorem partB_ok (n : Nat) : PartC (partB n) := by
  unfold partB
  split
  · exact item_part (item_lit rfl)
  · exact item_part (item_lit rfl)
  · refine ⟨by decide, ?_, ?_⟩
    · have e : (⟨#[112, 114, 105, 118, 97, 116, 101, 61, 34, 120, 44, 32, 121, 34]⟩ : ByteArray).data.toList = [112, 114, 105, 118, 97, 116, 101, 61] ++ HeadS.quoted [120, 44, 32, 121] := rfl
      rw [e]
      exact Closed.append (plain_closed rfl) (Closed.quoted (by decide))
    · exact ⟨by decide, by decide⟩
  · exact item_part (item_lit rfl)
  · exact item_part (item_lit rfl)
  · exact item_part (item_lit rfl)
/-- A place within m, of any number. -/
def placeF (n m : Int) : Int := if n.tmod m < 0 then n.tmod m + m else n.tmod m
theorem placeF_in {n m : Int} (hm : 0 < m) : 0 ≤ placeF n m ∧ placeF n m < m := by
  unfold placeF
  have h1 := Int.tmod_lt_of_pos n hm
  have h2 := Int.lt_tmod_of_pos n hm
  split <;> omega
set_option maxHeartbeats 2000000 in
theorem place_any (n : Int) (m : Nat) (w : World) (hm : 0 < m) (hm1 : m ≤ 1000000) (h1 : -9223372036854775808 ≤ n) (h2 : n ≤ 9223372036854775807) :
    Calls Tryd.prog 15 #[.int .i64 n, .int .i64 m] w fun e w' => e = .returned (.int .i64 (placeF n m)) ∧ w' = w := by
  have ht1 := Int.tmod_lt_of_pos n (show (0 : Int) < m by omega)
  have ht2 := Int.lt_tmod_of_pos n (show (0 : Int) < m by omega)
  obtain ⟨r, hr⟩ : ∃ r, n.tmod (m : Int) = r := ⟨_, rfl⟩
  rw [hr] at ht1 ht2
  have hne : ¬ ((m : Int) = 0) := by omega
  have hne2 : ((m : Int) == 0) = false := by rw [beq_eq_false_iff_ne]; omega
  by_cases h0 : r < 0
  · have HV : Hid (placeF n m = r + m) := Lib.hid (by unfold placeF; rw [hr, if_pos h0])
    go_enter Tryd.func15, Tryd.ntmps15
    go_wp2
    go_ret
    exact ⟨by rw [HV.out]; rfl, rfl⟩
  · have HV : Hid (placeF n m = r) := Lib.hid (by unfold placeF; rw [hr, if_neg h0])
    go_enter Tryd.func15, Tryd.ntmps15
    go_wp2
    go_ret
    exact ⟨by rw [HV.out]; rfl, rfl⟩
end Go.Proofs.YtkpkpfolgbpjbaaDoor
namespace Go.Proofs.YtkpkpfolgbpjbaaDoor
open Go.RowKit HeadMath HeadS

/-- The slice that starts at a reads as the numbers l. -/
def U16At (w : World) (a : Option Addr) (l : List Nat) : Prop :=
  ∀ k (h : k < l.length), ∃ b off, a = some ⟨b, off, none⟩ ∧ b < w.heap.size ∧ w.cell? ⟨b, off + k, none⟩ = some (.int .u16 l[k])
theorem U16At.below {w w' : World} {a : Option Addr} {l : List Nat} (h : U16At w a l) (hb : Below w.heap.size w w') : U16At w' a l := by
  intro k hk
  obtain ⟨b, off, h1, h2, h3⟩ := h k hk
  exact ⟨b, off, h1, Nat.lt_of_lt_of_le h2 hb.size, (hb.cell (p := ⟨b, off + k, none⟩) h2).trans h3⟩
def partsO (a b : List Nat) : List ByteArray := a.map partA ++ b.map partB
theorem take_map {f : Nat → ByteArray} {l : List Nat} {k : Nat} (hk : k < l.length) : (l.take (k + 1)).map f = (l.take k).map f ++ [f l[k]] := by
  rw [List.take_succ_eq_append_getElem hk, List.map_append]; rfl
theorem dec_small (n : Nat) (h : n ≤ 65535) : (⟨(Lib.decDigits n).toArray⟩ : ByteArray).size ≤ 21 := by
  show (Lib.decDigits n).toArray.size ≤ 21
  simpa using dec_len n (by omega)
set_option maxRecDepth 100000 in
theorem infoField : ∃ i, Tryd.prog.info? 29 = some i ∧ i.zero = some (.agg #[.string ⟨#[]⟩, .string ⟨#[]⟩]) ∧ i.size = 2 ∧ i.bytes = 32 := ⟨_, rfl, by kernel_rfl, by kernel_rfl, by kernel_rfl⟩
theorem fields_snoc (n : ByteArray) (l : List ByteArray) (y : ByteArray) : fieldCells (fieldsO n (l ++ [y])) = fieldCells (fieldsO n l) ++ [.string n, .string y] := by simp [fieldCells, fieldsO]
def cacheU : ByteArray := ⟨#[67, 65, 67, 72, 69, 45, 67, 111, 110, 116, 114, 111, 108]⟩
def HOKP (P : List ByteArray) : Prop := ∀ x ∈ P, PartC x ∧ x.size ≤ 40
theorem parts_ok {la lb : List Nat} (h : ∀ n ∈ la, n ≤ 65535) : HOKP (partsO la lb) := by
  intro x hx
  unfold partsO at hx
  rcases List.mem_append.1 hx with hx | hx
  · obtain ⟨n, hn, rfl⟩ := List.mem_map.1 hx
    refine ⟨partA_ok n (h n hn), ?_⟩
    have := dec_small (n / 4) (by have := h n hn; omega)
    have hp : (preA (n % 4)).size ≤ 10 := by
      match n % 4 with
      | 0 => decide
      | 1 => decide
      | 2 => decide
      | n + 3 => show (preA 3).size ≤ 10; decide
    unfold partA
    rw [ByteArray.size_append]
    omega
  · obtain ⟨n, hn, rfl⟩ := List.mem_map.1 hx
    refine ⟨partB_ok n, ?_⟩
    unfold partB
    split <;> decide
theorem own_in {B : Nat} {w : World} {v : Value} {l : List ByteArray} (h : OwnStrs B w v l) : ∃ a n c, v = .slice a n c ∧ n = l.length ∧ StrsIn w.heap.size w a l := by
  by_cases h0 : l = []
  · subst h0
    obtain ⟨a, c, rfl, _⟩ := own_form (n := 0) h rfl
    exact ⟨a, 0, c, rfl, rfl, fun j hj => absurd hj (Nat.not_lt_zero _)⟩
  · obtain ⟨g, cap, rfl, h1, h2⟩ := World.ownsRow.form h (List.length_pos_iff.2 h0)
    refine ⟨_, _, cap, rfl, rfl, fun j hj => ⟨g, 0, rfl, h2, ?_⟩⟩
    have := h.cells (g := g) rfl j _ (strCells_at hj)
    have e : (⟨g, 0, none⟩ : Addr).add j = ⟨g, j, none⟩ := by unfold Addr.add; by_cases h0 : j = 0 <;> simp [h0]
    rw [e] at this
    rw [Nat.zero_add]
    exact this
theorem own_fieldsIn {B : Nat} {w : World} {v : Value} {n : Nat} {l : List (ByteArray × ByteArray)} (hn : l.length = n) (h : w.ownsRow B 29 2 v n (fieldCells l)) : ∃ a c, v = .slice a n c ∧ FieldsIn w.heap.size w a l := by
  subst hn
  rcases h.2 with ⟨rfl, h0⟩ | ⟨g, cap, cur, rfl, _, hg, _⟩
  · obtain rfl := List.eq_nil_of_length_eq_zero h0
    exact ⟨none, 0, rfl, fun j hj => absurd hj (Nat.not_lt_zero _)⟩
  · refine ⟨_, cap, rfl, fun j hj => ⟨g, 0, rfl, (Array.getElem?_eq_some_iff.1 hg).1, ?_, ?_⟩⟩
    · have := h.cells (g := g) rfl _ _ (fieldCells_at l j hj).1
      have e : (⟨g, 0, none⟩ : Addr).add (j * 2) = ⟨g, j * 2, none⟩ := by unfold Addr.add; by_cases h0 : j * 2 = 0 <;> simp [h0]
      rw [e] at this
      rw [Nat.zero_add]
      exact this
    · have := h.cells (g := g) rfl _ _ (fieldCells_at l j hj).2
      have e : (⟨g, 0, none⟩ : Addr).add (j * 2 + 1) = ⟨g, j * 2 + 1, none⟩ := by unfold Addr.add; simp
      rw [e] at this
      rw [Nat.zero_add]
      exact this
theorem kin_in {w : World} {a : Option Addr} {l : List (ByteArray × ByteArray)} (y : Kin w) (h : FieldsIn w.heap.size w a l) : FieldsIn y.wd.heap.size y.wd a l := fun j hj => by
  obtain ⟨b, off, h1, h2, h3, h4⟩ := h j hj
  exact ⟨b, off, h1, Nat.lt_of_lt_of_le h2 y.below.size, (y.below.cell (p := ⟨b, off + j * 2, none⟩) h2).trans h3, (y.below.cell (p := ⟨b, off + j * 2 + 1, none⟩) h2).trans h4⟩
theorem few_fields {n : ByteArray} {l : List ByteArray} (hn : n.size ≤ 1000000) (hl : l.length ≤ 100000) (h : ∀ x ∈ l, x.size ≤ 1000000) : FewF (fieldsO n l) := by
  refine ⟨by unfold fieldsO; rw [List.length_map]; exact hl, fun j hj => ?_⟩
  have hj' : j < l.length := by unfold fieldsO at hj; rwa [List.length_map] at hj
  have e : (fieldsO n l)[j] = (n, l[j]) := List.getElem_map (fun x => (n, x))
  rw [e]
  exact ⟨hn, h _ (List.getElem_mem hj')⟩
end Go.Proofs.YtkpkpfolgbpjbaaDoor
namespace Go.Proofs.YtkpkpfolgbpjbaaDoor
open Go.RowKit HeadMath HeadS

theorem low_eq {c d : UInt8} (h1 : ¬ (97 ≤ d.toNat ∧ d.toNat ≤ 122)) (h2 : ¬ (65 ≤ d.toNat ∧ d.toNat ≤ 90)) : (small c = d) = (c = d) := by
  apply propext
  by_cases hc : 65 ≤ c.toNat ∧ c.toNat ≤ 90
  · have := small_up hc
    constructor
    · intro e; rw [e] at this; omega
    · intro e; subst e; exact absurd hc h2
  · rw [small_other hc]
theorem low34 {c : UInt8} : (small c = 34) = (c = 34) := low_eq (by decide) (by decide)
theorem low44 {c : UInt8} : (small c = 44) = (c = 44) := low_eq (by decide) (by decide)
theorem low92 {c : UInt8} : (small c = 92) = (c = 92) := low_eq (by decide) (by decide)
theorem low61 {c : UInt8} : (small c = 61) = (c = 61) := low_eq (by decide) (by decide)
theorem low_blank (c : UInt8) : blankB (small c) = blankB c := by
  have h1 : (small c = 32) = (c = 32) := low_eq (by decide) (by decide)
  have h2 : (small c = 9) = (c = 9) := low_eq (by decide) (by decide)
  unfold blankB
  rw [Bool.eq_iff_iff, Bool.or_eq_true, Bool.or_eq_true, beq_iff_eq, beq_iff_eq, beq_iff_eq, beq_iff_eq, h1, h2]
theorem low_digit (c : UInt8) : digitB (small c) = digitB c := by
  unfold digitB
  by_cases hc : 65 ≤ c.toNat ∧ c.toNat ≤ 90
  · have := small_up hc
    rw [Bool.eq_iff_iff, decide_eq_true_iff, decide_eq_true_iff]
    omega
  · rw [small_other hc]
theorem low_is {c : UInt8} (h : digitB c = true) : small c = c := by
  unfold digitB at h
  rw [decide_eq_true_iff] at h
  exact small_other (by omega)
theorem low_low (c : UInt8) : small (small c) = small c := by
  by_cases hc : 65 ≤ c.toNat ∧ c.toNat ≤ 90
  · have := small_up hc
    exact small_other (by omega)
  · rw [small_other hc, small_other hc]
theorem lowF_twice (l : List UInt8) : lowF (lowF l) = lowF l := by
  unfold lowF
  rw [List.map_map]
  exact List.map_congr_left fun c _ => low_low c
theorem end_low : ∀ (q t : Bool) (l : List UInt8), endF q t (lowF l) = endF q t l
  | _, _, [] => rfl
  | q, true, c :: r => by
    show endF q true (small c :: lowF r) = _
    simp only [endF, end_low q false r]
  | true, false, c :: r => by
    show endF true false (small c :: lowF r) = _
    simp only [endF, low92, low34, end_low true true r, end_low false false r, end_low true false r]
  | false, false, c :: r => by
    show endF false false (small c :: lowF r) = _
    simp only [endF, low44, low34, end_low false false r, end_low true false r]
theorem trimL_low (l : List UInt8) : trimL (lowF l) = lowF (trimL l) := by
  unfold trimL lowF
  rw [List.dropWhile_map]
  congr 2
  funext c
  exact low_blank c
theorem trim_low (l : List UInt8) : trimF (lowF l) = lowF (trimF l) := by
  unfold trimF
  have h : ∀ l : List UInt8, (lowF l).reverse = lowF l.reverse := fun l => by unfold lowF; rw [List.map_reverse]
  rw [h, trimL_low, h, trimL_low]
def lowB (x : ByteArray) : ByteArray := ⟨(lowF x.data.toList).toArray⟩
theorem lowB_list (x : ByteArray) : (lowB x).data.toList = lowF x.data.toList := rfl
theorem lowB_size (x : ByteArray) : (lowB x).size = x.size := by
  rw [← size_list, ← size_list, lowB_list]
  unfold lowF
  rw [List.length_map]
theorem list_inj {x y : ByteArray} (h : x.data.toList = y.data.toList) : x = y := data_inj h
theorem lowB_extract (x : ByteArray) (i j : Nat) : (lowB x).extract i j = lowB (x.extract i j) := by
  apply list_inj
  rw [Lib.extract_data, lowB_list, lowB_list, Lib.extract_data]
  unfold lowF
  rw [List.map_take, List.map_drop]
theorem piece_low (v : ByteArray) : pieceOf (lowB v) = lowB (pieceOf v) := by
  apply list_inj
  unfold pieceOf endOf
  rw [lowB_list, lowB_list, end_low, lowB_extract, lowB_list]
  exact trim_low _
theorem rest_low (v : ByteArray) : restOf (lowB v) = lowB (restOf v) := by
  unfold restOf endOf
  rw [lowB_list, end_low, lowB_size, lowB_extract]
theorem parts_low : ∀ (n : Nat) (v : ByteArray), v.size ≤ n → partsF (lowB v) = (partsF v).map lowB := by
  intro n
  induction n with
  | zero =>
    intro v hv
    rw [partsF_nil (by rw [lowB_size]; omega), partsF_nil (by omega)]
    rfl
  | succ n ih =>
    intro v hv
    by_cases h0 : v.size = 0
    · rw [partsF_nil (by rw [lowB_size]; exact h0), partsF_nil h0]
      rfl
    · have ev : partsF v = (if (pieceOf v).size = 0 then [] else [pieceOf v]) ++ partsF (restOf v) := by rw [partsF, dif_neg h0]
      have el : partsF (lowB v) = (if (pieceOf (lowB v)).size = 0 then [] else [pieceOf (lowB v)]) ++ partsF (restOf (lowB v)) := by rw [partsF, dif_neg (by rw [lowB_size]; exact h0)]
      rw [el, ev, piece_low, rest_low, lowB_size, ih (restOf v) (by rw [restOf_size]; omega)]
      by_cases hp : (pieceOf v).size = 0
      · rw [if_pos hp, if_pos hp, List.nil_append, List.nil_append]
      · rw [if_neg hp, if_neg hp, List.singleton_append, List.singleton_append, List.map_cons]
theorem walk_low : ∀ (n : Nat) (r acc : List UInt8), r.length ≤ n → walkP (lowF r) (lowF acc) = (walkP r acc).map lowF := by
  intro n
  induction n with
  | zero =>
    intro r acc h
    obtain rfl := List.eq_nil_of_length_eq_zero (Nat.le_zero.1 h)
    rfl
  | succ n ih =>
    intro r acc h
    match r, h with
    | [], _ => rfl
    | [c], _ =>
      show walkP [small c] (lowF acc) = _
      simp only [walkP, low34]
      split <;> rfl
    | c :: d :: r, h =>
      have hl : r.length ≤ n := by simp at h; omega
      have hl2 : (d :: r).length ≤ n := by simp at h ⊢; omega
      have i1 := ih r (acc ++ [d]) hl
      have i2 := ih (d :: r) (acc ++ [c]) hl2
      have e1 : lowF (acc ++ [d]) = lowF acc ++ [small d] := by simp [lowF]
      have e2 : lowF (acc ++ [c]) = lowF acc ++ [small c] := by simp [lowF]
      have e3 : lowF (d :: r) = small d :: lowF r := rfl
      rw [e1] at i1
      rw [e2, e3] at i2
      show walkP (small c :: small d :: lowF r) (lowF acc) = _
      simp only [walkP, low34, low92]
      by_cases h34 : c = 34
      · simp [h34]
      · by_cases h92 : c = 92
        · simp [h92, i1]
        · simp [h34, h92, i2]
theorem unq_not {c : UInt8} {r : List UInt8} (h : c ≠ 34) : unqF (c :: r) = c :: r := by
  unfold unqF
  split
  · rename_i e; injection e with e; exact absurd e h
  · rfl
theorem unq_low (l : List UInt8) : unqF (lowF l) = lowF (unqF l) := by
  cases l with
  | nil => rfl
  | cons c r =>
    by_cases h : c = 34
    · subst h
      have e : lowF (34 :: r) = 34 :: lowF r := rfl
      rw [e]
      show (walkP (lowF r) []).getD (34 :: lowF r) = lowF ((walkP r []).getD (34 :: r))
      have := walk_low r.length r [] (Nat.le_refl _)
      rw [show lowF [] = [] from rfl] at this
      rw [this]
      cases walkP r [] <;> rfl
    · rw [unq_not h]
      show unqF (small c :: lowF r) = _
      rw [unq_not (by rw [Ne, low34]; exact h)]
      rfl
theorem sec_low (l : List UInt8) : secF (lowF l) = secF l := by
  have ha : (lowF l).all digitB = l.all digitB := by
    unfold lowF
    rw [List.all_map]
    congr 1
    funext c
    exact low_digit c
  unfold secF
  rw [ha]
  split
  · rename_i h
    have : lowF l = l := by
      unfold lowF
      conv => rhs; rw [← List.map_id l]
      exact List.map_congr_left fun c hc => low_is (List.all_eq_true.1 h c hc)
    rw [this]
  · rfl
theorem eq_low (s : ByteArray) : eqAt (lowB s) = eqAt s := by
  unfold eqAt
  rw [lowB_list]
  generalize s.data.toList = l
  induction l with
  | nil => rfl
  | cons c l ih =>
    show Lib.indexByte (small c :: lowF l) 61 = _
    simp only [Lib.indexByte, beq_iff_eq, low61, ih]
theorem say_low (c : Ctl) (p : ByteArray) : sayF c (lowB p) = sayF c p := by
  have e0 : lowB (⟨#[]⟩ : ByteArray) = ⟨#[]⟩ := rfl
  have hn : namP (lowB p) = lowB (namP p) := by
    unfold namP
    rw [eq_low]
    split
    · rfl
    · rw [lowB_extract]
  have hv : valP (lowB p) = lowB (valP p) := by
    unfold valP
    rw [eq_low]
    split
    · rfl
    · rw [lowB_extract, lowB_size]
  have hh : hasP (lowB p) = hasP p := by unfold hasP; rw [eq_low]
  have hk : kindP (lowB p) = kindP p := by unfold kindP; rw [hn, lowB_list, lowF_twice]
  have hs : valSec (valP (lowB p)) = valSec (valP p) := by unfold valSec; rw [hv, lowB_list, unq_low, sec_low]
  unfold sayF
  rw [hh, hk, hs]
theorem fold_low (l : List ByteArray) : ctlL (l.map lowB) = ctlL l := by
  unfold ctlL
  generalize ctl0 = c
  induction l generalizing c with
  | nil => rfl
  | cons x l ih => rw [List.map_cons, List.foldl_cons, say_low, ih]; rfl
/-- Values that differ by their letters' case say the same. -/
theorem parts_case {a b : ByteArray} (h : lowB a = lowB b) : (partsF a).map lowB = (partsF b).map lowB := by
  rw [← parts_low a.size a (Nat.le_refl _), ← parts_low b.size b (Nat.le_refl _), h]
theorem flat_case : ∀ {l m : List ByteArray}, l.map lowB = m.map lowB → (l.flatMap partsF).map lowB = (m.flatMap partsF).map lowB
  | [], [], _ => rfl
  | [], _ :: _, h => by cases h
  | _ :: _, [], h => by cases h
  | a :: l, b :: m, h => by
    rw [List.map_cons, List.map_cons] at h
    injection h with h1 h2
    rw [List.flatMap_cons, List.flatMap_cons, List.map_append, List.map_append, parts_case h1, flat_case h2]
theorem all_named {n : ByteArray} (hn : sameF n.data.toList cacheN.data.toList = true) (m : List ByteArray) : allF cacheN (fieldsO n m) = m := by
  unfold allF fieldsO
  rw [List.filter_eq_self.2 (by
    intro f hf
    obtain ⟨x, _, rfl⟩ := List.mem_map.1 hf
    exact hn), List.map_map]
  exact List.map_id m
theorem parse_named {n : ByteArray} (hn : sameF n.data.toList cacheN.data.toList = true) (m : List ByteArray) : parseF (fieldsO n m) = ctlL (m.flatMap partsF) := by
  unfold parseF listF
  rw [all_named hn]
  split
  · rename_i h0
    subst h0
    rfl
  · rfl
theorem parse_case {n n' : ByteArray} (hn : sameF n.data.toList cacheN.data.toList = true) (hn' : sameF n'.data.toList cacheN.data.toList = true) {l m : List ByteArray} (h : l.map lowB = m.map lowB) : parseF (fieldsO n l) = parseF (fieldsO n' m) := by
  rw [parse_named hn, parse_named hn', ← fold_low, flat_case h, fold_low]
def pragmaP : ByteArray × ByteArray := (⟨#[80, 82, 65, 71, 77, 65]⟩, ⟨#[120, 44, 32, 78, 111, 45, 67, 97, 99, 104, 101]⟩)
/-- With a Cache-Control there, Pragma says nothing. -/
theorem parse_pragma {n : ByteArray} (hn : sameF n.data.toList cacheN.data.toList = true) {m : List ByteArray} (h : m ≠ []) : parseF (fieldsO n m ++ [pragmaP]) = parseF (fieldsO n m) := by
  have ha : allF cacheN (fieldsO n m ++ [pragmaP]) = m := by
    have e := all_named hn m
    unfold allF at e ⊢
    rw [List.filter_append, List.map_append, e]
    have : isNamed cacheN pragmaP = false := by decide +kernel
    simp [this]
  unfold parseF listF
  rw [ha, all_named hn, if_neg h, if_neg h]
/-- Without any, it counts. -/
theorem pragma_one : (parseF [pragmaP]).noCache = true := by
  have h1 : allF cacheN [pragmaP] = [] := by
    unfold allF
    have : isNamed cacheN pragmaP = false := by decide +kernel
    simp [this]
  have h2 : allF pragmaN [pragmaP] = [pragmaP.2] := by
    unfold allF
    have : isNamed pragmaN pragmaP = true := by decide +kernel
    simp [this]
  have h3 : partsF pragmaP.2 = [⟨#[120]⟩, ⟨#[78, 111, 45, 67, 97, 99, 104, 101]⟩] := by
    have := parts_join [⟨#[120]⟩, ⟨#[78, 111, 45, 67, 97, 99, 104, 101]⟩] (by
      intro y hy
      simp only [List.mem_cons, List.not_mem_nil, or_false] at hy
      rcases hy with rfl | rfl
      · exact item_lit rfl
      · exact item_lit rfl)
    rw [← this]
    rfl
  unfold parseF
  rw [if_pos h1]
  show elder (listF pragmaN [pragmaP]) = true
  unfold listF
  rw [h2]
  show elder (partsF pragmaP.2 ++ []) = true
  rw [List.append_nil, h3]
  decide +kernel
end Go.Proofs.YtkpkpfolgbpjbaaDoor
namespace Go.Proofs.YtkpkpfolgbpjbaaDoor
open Go.RowKit HeadMath HeadS

def cacheC : ByteArray := ⟨#[99, 97, 99, 104, 101, 45, 67, 79, 78, 84, 82, 79, 76]⟩
theorem flip_len (M : List UInt8) (pad : Nat) : (mixRow M 0 pad).size = M.length + pad := by simp [mixRow, mixL_zero]
theorem flip_get {M : List UInt8} {pad k : Nat} (h : k < M.length) : (mixRow M 0 pad)[k]? = some (.int .u8 (M[k].toNat : Int)) := by
  rw [mixRow_get _ _ _ _ h, if_neg (Nat.not_lt_zero _)]
theorem flip_set {M : List UInt8} {pad k : Nat} (h : k < M.length) (c : UInt8) : (mixRow M 0 pad).setIfInBounds k (.int .u8 (c.toNat : Int)) = mixRow (M.set k c) 0 pad := by
  apply Array.ext_getElem?
  intro i
  rw [Array.getElem?_setIfInBounds]
  by_cases hik : k = i
  · subst hik
    rw [if_pos rfl, if_pos (by rw [flip_len]; omega), flip_get (by rw [List.length_set]; exact h)]
    simp
  · rw [if_neg hik]
    unfold mixRow
    rw [mixL_zero, mixL_zero]
    by_cases hi : i < M.length
    · rw [Array.getElem?_append_left (by simpa using hi), Array.getElem?_append_left (by simpa using hi)]
      simp [List.getElem_set, hik, hi]
    · rw [Array.getElem?_append_right (by simpa using hi), Array.getElem?_append_right (by simpa using hi)]
      simp
theorem up_low {c : UInt8} (h1 : 97 ≤ c.toNat) (h2 : c.toNat ≤ 122) : small (c - 32) = small c ∧ ((c - 32 : UInt8).toNat : Int) = (c.toNat : Int) - 32 := by
  have hs : (c - 32 : UInt8).toNat = c.toNat - 32 := by
    rw [UInt8.toNat_sub_of_le]
    · rfl
    · rw [UInt8.le_iff_toNat_le]; show 32 ≤ c.toNat; omega
  refine ⟨?_, by rw [hs]; omega⟩
  have h3 := small_up (c := c - 32) (by rw [hs]; omega)
  rw [small_other (c := c) (by omega)]
  apply UInt8.toNat_inj.1
  rw [h3, hs]
  omega
theorem low_set {M : List UInt8} {k : Nat} (h : k < M.length) {c : UInt8} (hc : small c = small M[k]) : lowF (M.set k c) = lowF M := by
  unfold lowF
  rw [List.map_set, hc]
  apply List.ext_getElem (by simp)
  intro i h1 h2
  rw [List.getElem_set]
  split
  · rename_i e; subst e; simp
  · rfl
theorem flip_conv {w : World} {g pad cap : Nat} {r : Nat × Nat} {M : List UInt8} (h : MBlk w g 5 (mixRow M 0 pad) r) :
    (convert 38 9 (.slice (some ⟨g, 0, none⟩) M.length cap)).run Tryd.prog w = .ok (.string ⟨M.toArray⟩) w :=
  run_convert_bytes_back (P := Tryd.prog) w 38 9 5 ⟨g, 0, none⟩ cap M Tryd.underlying38 Tryd.underlying5 Tryd.underlying9 (fun j hj => by
    have e : (⟨g, 0, none⟩ : Addr).add j = ⟨g, j, none⟩ := by unfold Addr.add; by_cases h0 : j = 0 <;> simp [h0]
    rw [e, h.cell j, flip_get hj])
/-- Two rows of fields, at or behind B, apart from one another. -/
structure Pair (B : Nat) (w : World) (va vb : Value) (ka kb : Nat) (A M : List ByteArray) : Prop where
  ra : w.ownsRow 0 29 2 va ka (fieldCells (fieldsO cacheN A))
  rb : w.ownsRow 0 29 2 vb kb (fieldCells (fieldsO cacheC M))
  na : ∀ g, va.ownBlock = some g → B ≤ g ∧ vb.ownBlock ≠ some g
  nb : ∀ g, vb.ownBlock = some g → B ≤ g
theorem Pair.spares {B : Nat} {F : Nat → Prop} {w w' : World} {va vb : Value} {ka kb : Nat} {A M : List ByteArray} (h : Pair B w va vb ka kb A M) (hs : Spares F w w') (hn : ∀ g, F g → va.ownBlock ≠ some g ∧ vb.ownBlock ≠ some g) : Pair B w' va vb ka kb A M :=
  ⟨hs.own h.ra (fun g hg hf => (hn g hf).1 hg), hs.own h.rb (fun g hg hf => (hn g hf).2 hg), h.na, h.nb⟩
theorem Pair.stepA {B : Nat} {w w' : World} {va vb v' : Value} {ka kb : Nat} {A M : List ByteArray} {x : ByteArray} (h : Pair B w va vb ka kb A M) (hB : B ≤ w.heap.size)
    (ho : w'.ownsRow 0 29 2 v' (ka + 1) (fieldCells (fieldsO cacheN A) ++ [.string cacheN, .string x])) (hg : w.grownBy w' va.ownBlock) (hl : ∀ g, v'.ownBlock = some g → va.ownBlock = some g ∨ w.heap.size ≤ g) :
    Pair B w' v' vb (ka + 1) kb (A ++ [x]) M := by
  have hs : Spares (fun b => va.ownBlock = some b) w w' := (Spares.refl _ w).grown hg (fun k hk => .inl hk)
  refine ⟨by rw [fields_snoc]; exact ho, hs.own h.rb (fun g hg hf => (h.na g hf).2 hg), fun g hg => ?_, h.nb⟩
  rcases hl g hg with h1 | h1
  · exact h.na g h1
  · exact ⟨Nat.le_trans hB h1, fun e => by have := (World.ownsRow.lt h.rb g e).2; omega⟩
theorem Pair.stepB {B : Nat} {w w' : World} {va vb v' : Value} {ka kb : Nat} {A M : List ByteArray} {x : ByteArray} (h : Pair B w va vb ka kb A M) (hB : B ≤ w.heap.size)
    (ho : w'.ownsRow 0 29 2 v' (kb + 1) (fieldCells (fieldsO cacheC M) ++ [.string cacheC, .string x])) (hg : w.grownBy w' vb.ownBlock) (hl : ∀ g, v'.ownBlock = some g → vb.ownBlock = some g ∨ w.heap.size ≤ g) :
    Pair B w' va v' ka (kb + 1) A (M ++ [x]) := by
  have hs : Spares (fun b => vb.ownBlock = some b) w w' := (Spares.refl _ w).grown hg (fun k hk => .inl hk)
  refine ⟨hs.own h.ra (fun g hg hf => (h.na g hg).2 hf), by rw [fields_snoc]; exact ho, fun g hg => ⟨(h.na g hg).1, fun e => ?_⟩, fun g hg => ?_⟩
  · rcases hl g e with h1 | h1
    · exact (h.na g hg).2 h1
    · have := (World.ownsRow.lt h.ra g hg).2; omega
  · rcases hl g hg with h1 | h1
    · exact h.nb g h1
    · exact Nat.le_trans hB h1
/-- The field's two cells, in the block that was just made. -/
theorem field_new (w : World) (n x : ByteArray) : ∀ j u, [Value.string n, Value.string x][j]? = some u → (w.alloc (.cells #[.string n, .string x] 29)).cell? ((⟨w.heap.size, 0, none⟩ : Addr).add j) = some u := by
  intro j u hj
  match j, hj with
  | 0, hj => injection hj with hj; subst hj; simp [go_sem, Addr.add]
  | 1, hj => injection hj with hj; subst hj; simp [go_sem, Addr.add]
theorem cell_lt {w : World} {p : Addr} {v : Value} (h : w.cell? p = some v) : p.block < w.heap.size := by
  rcases Nat.lt_or_ge p.block w.heap.size with h1 | h1
  · exact h1
  · simp [World.cell?, Array.getElem?_eq_none h1] at h
theorem one_fields (w : World) (f : ByteArray × ByteArray) : FieldsIn (w.heap.size + 1) (w.alloc (.cells #[.string f.1, .string f.2] 29)) (some ⟨w.heap.size, 0, none⟩) [f] := k_fields w f.1 f.2
end Go.Proofs.YtkpkpfolgbpjbaaDoor
namespace Go.Proofs.YtkpkpfolgbpjbaaDoor
open Go.RowKit HeadMath HeadS

def low2 (f : ByteArray × ByteArray) : ByteArray := lowB f.2
/-- What holds behind k fields. -/
structure CaseAt (B : Nat) (w : World) (va vb : Value) (k : Nat) (A M : List ByteArray) : Prop where
  pair : Pair B w va vb k k A M
  len : M.length = k
  low : M.map lowB = A.map lowB
  size : ∀ x ∈ M, x.size ≤ 300
theorem low2_size (f : ByteArray × ByteArray) : (low2 f).size = f.2.size := lowB_size _
theorem lowB_twice (x : ByteArray) : lowB (lowB x) = lowB x := list_inj (by rw [lowB_list, lowB_list, lowF_twice])
theorem arr_size (l : List UInt8) : (⟨l.toArray⟩ : ByteArray).size = l.length := by show l.toArray.size = l.length; simp
set_option maxRecDepth 100000 in
set_option maxHeartbeats 32000000 in
theorem case_any (l : List (ByteArray × ByteArray)) (ts : List UInt8) (aa ab : Option Addr) (ca cb : Nat) (pragma : Bool) (w : World) (hin : FieldsIn w.heap.size w aa l) (hts : BytesAt w ab ts) (ht : TabW w) (hw : 1 < w.heap.size)
    (hle : l.length ≤ maxLen) (hsz : ∀ j (h : j < l.length), (l[j]).1.size ≤ maxLen ∧ (l[j]).2.size ≤ maxLen) (hlt : ts.length ≤ 9223372036854775807) :
    Calls Tryd.prog 5 #[.slice aa l.length ca, .slice ab ts.length cb, .bool pragma] w (Yes w) := by
  unfold maxLen at hle hsz
  have HIN := Lib.hid hin
  have HTS := Lib.hid hts
  have HSZ := Lib.hid hsz
  have HT := Lib.hid ht
  have HW := Lib.hid hw
  have hn63 : l.length < 9223372036854775808 := by omega
  clear hin hts hsz ht hw hle
  unfold Yes
  go_enter Tryd.func5, Tryd.ntmps5
  go_wp2_with fail
  refine (known_any w HT.out HW.out).mono ?_
  rintro e w1 ⟨rfl, hb1⟩
  have HB1 := Lib.hid hb1
  have HIN1 : Hid (FieldsIn w1.heap.size w1 aa l) := Lib.hid (kin_in (w := w) ⟨w1, hb1⟩ HIN.out)
  have HTS1 := Lib.hid (HTS.out.spares (Below.spares (F := nowhere) hb1 (fun k hk => .inr hk)) (fun _ _ _ h => h))
  clear hb1
  go_wp2_with fail
  refine (light_any l aa ca l.length 10 w1 HIN1.out rfl hn63 (by omega) HSZ.out).mono ?_
  rintro e w2 ⟨lit, rfl, hw2, hlit⟩
  replace hw2 := hw2.symm
  subst hw2
  cases lit with
  | false =>
    clear hlit
    go_wp2
    go_ret
    exact ⟨rfl, HB1.out⟩
  | true =>
  by_cases h100 : 100 < ts.length
  · clear hlit
    go_wp2
    go_ret
    exact ⟨rfl, HB1.out⟩
  obtain ⟨h10, hl⟩ := hlit rfl
  have HL := Lib.hid hl
  clear hlit hl
  go_wp2
  go_loopw [9, 7, 8] (fun i va vb wr => ∃ (k : Nat) (M : List ByteArray) (va0 vb0 : Value), k ≤ l.length ∧ i = .int .i64 k ∧ va0 = va ∧ vb0 = vb ∧ Hid (CaseAt w1.heap.size wr va0 vb0 k ((l.take k).map low2) M) ∧ Hid (Below w1.heap.size w1 wr)) (fun i _ _ _ => l.length - (intOf i).toNat)
  case atStart => exact ⟨0, [], _, _, Nat.zero_le _, rfl, rfl, rfl, Lib.hid ⟨⟨World.ownsRow_nil _ _ _ _, World.ownsRow_nil _ _ _ _, (fun g h => by cases h), (fun g h => by cases h)⟩, rfl, rfl, (fun x h => by cases h)⟩, Lib.hid (Below.refl _ _)⟩
  case round =>
    obtain ⟨k, M, va, vb, hk, rfl, rfl, rfl, HC, HB⟩ := hrel
    by_cases hkl : k < l.length
    · obtain ⟨b, off, rfl, hbl, _, hc1⟩ := HIN1.out k hkl
      have x1 := (HB.out.cell (p := ⟨b, off + k * 2 + 1, none⟩) hbl).trans hc1
      have hsx := (HL.out k hkl).2
      have HTM : Hid ((l.take (k + 1)).map low2 = (l.take k).map low2 ++ [low2 l[k]]) := Lib.hid (by rw [List.take_succ_eq_append_getElem hkl, List.map_append]; rfl)
      have HLX : Hid (low2 l[k] = lowB (l[k]).2) := Lib.hid rfl
      obtain ⟨x, hx⟩ : ∃ x, (l[k]).2 = x := ⟨_, rfl⟩
      rw [hx] at x1 hsx HLX
      have hcv := fun w s => run_bytes_of_string (P := Tryd.prog) w 9 38 5 s Tryd.underlying9 Tryd.underlying38 Tryd.underlying5
      have cL := fun w => refLow_any x w (by omega)
      have HX : Hid (lowB x = ⟨(lowF x.data.toList).toArray⟩) := Lib.hid rfl
      obtain ⟨y, hy⟩ : ∃ y : ByteArray, (⟨(lowF x.data.toList).toArray⟩ : ByteArray) = y := ⟨_, rfl⟩
      simp only [hy] at cL HX
      have hys : y.size = x.size := by rw [← HX.out]; exact lowB_size x
      have hy300 : y.size ≤ 300 := by omega
      have HLY : Hid (lowF y.data.toList = y.data.toList) := Lib.hid (by rw [← HX.out, lowB_list, lowF_twice])
      have CL := Lib.hid cL
      clear hx hy hc1 hbl hys cL
      obtain ⟨wo, rfl⟩ : ∃ wo : World, wo = wr := ⟨_, rfl⟩
      go_upto_region 10 with (go_at_call 18; refine (CL.out _).mono ?_; rintro e w4 ⟨rfl, hb4⟩)
      generalize grownCap w4 y.size 0 5 = cap
      have hm0 := bytesRow_mix y cap
      obtain ⟨w5, hw5⟩ : ∃ w5, (w4.alloc (.cells (bytesRow y cap) 5 ((bytesRow y cap).size, (bytesRow y cap).size + 1))).drew = w5 := ⟨_, rfl⟩
      have hA5 : MBlk w5 w4.heap.size 5 (mixRow y.data.toList 0 (cap - y.size)) (y.size + (cap - y.size), y.size + (cap - y.size) + 1) := by
        have h := MBlk.new w4 5 (bytesRow y cap) ((bytesRow y cap).size, (bytesRow y cap).size + 1)
        have hz : (bytesRow y cap).size = y.size + (cap - y.size) := by simp [bytesRow]
        rw [← hw5]
        rw [hz] at h ⊢
        rw [hm0] at h ⊢
        exact h
      have hs5 : Spares nowhere wo w5 := by
        rw [← hw5]
        exact (Below.spares (F := nowhere) hb4 (fun k hk => .inr hk)).alloc _ |>.drew
      have hz5 : w4.heap.size < w5.heap.size := by rw [← hw5]; show w4.heap.size < (w4.alloc _).heap.size; simp
      have hz4 : wo.heap.size ≤ w4.heap.size := hb4.size
      change Code.wp _ _ _ _ ((w4.alloc (.cells (bytesRow y cap) 5 ((bytesRow y cap).size, (bytesRow y cap).size + 1))).drew)
      rw [hw5]
      have c5 : ∀ cap, (convert 38 9 (.slice (some ⟨w4.heap.size, 0, none⟩) y.size cap)).run Tryd.prog w5 = .ok (.string y) w5 := fun cap => by
        have := flip_conv (cap := cap) hA5
        rw [size_list] at this
        exact this
      clear hm0 hcv
      obtain ⟨pad, hpad⟩ : ∃ pad, cap - y.size = pad := ⟨_, rfl⟩
      rw [hpad] at hA5
      clear hpad hb4 hw5
      generalize hg5 : w4.heap.size = g5 at hA5 hz5 hz4 c5 ⊢
      clear hg5
      obtain ⟨i1, fi, fz0, fz1, fz2⟩ := infoField
      have hva : ∀ g, va.ownBlock = some g → g < g5 := fun g h => Nat.lt_of_lt_of_le (World.ownsRow.lt HC.out.pair.ra g h).2 hz4
      have hvb : ∀ g, vb.ownBlock = some g → g < g5 := fun g h => Nat.lt_of_lt_of_le (World.ownsRow.lt HC.out.pair.rb g h).2 hz4
      have hp5 := HC.out.pair.spares hs5 (fun g h => h.elim)
      have HPA := Lib.hid (hp5.spares ((Spares.refl nowhere w5).alloc (.cells #[.string cacheN, .string y] 29)) (fun g h => h.elim))
      have HCA := Lib.hid (field_new w5 cacheN y)
      have HX1 : Hid (k + 1 ≤ maxLen) := Lib.hid (by unfold maxLen; omega)
      have HX2 : Hid ((k + 1) * 32 ≤ 140737488355328) := Lib.hid (by omega)
      have hb5 : Below w1.heap.size w1 w5 := HB.out.trans (hs5.below HB.out.size (fun _ _ h => h))
      have HBa := Lib.hid (hb5.alloc hb5.size (.cells #[.string cacheN, .string y] 29))
      have HSa := Lib.hid HBa.out.size
      have HA5 : Hid (MBlk (w5.alloc (.cells #[.string cacheN, .string y] 29)) g5 5 (mixRow y.data.toList 0 pad) (y.size + pad, y.size + pad + 1)) := Lib.hid (((Spares.refl nowhere w5).alloc (.cells #[.string cacheN, .string y] 29)).heap hA5 (fun h => h))
      have HVA := Lib.hid hva
      have HVB : Hid (vb.ownBlock ≠ some g5) := Lib.hid (fun h => by have := hvb _ h; omega)
      have HZ5 : Hid (g5 < (w5.alloc (.cells #[.string cacheN, .string y] 29)).heap.size) := Lib.hid (by simp; omega)
      have HG5 : Hid (w1.heap.size ≤ g5) := Lib.hid (Nat.le_trans HB.out.size hz4)
      have HLEN : Hid (M.length = k) := Lib.hid HC.out.len
      have HLOW := Lib.hid HC.out.low
      have HSIZ := Lib.hid HC.out.size
      obtain ⟨A, hA⟩ : ∃ A, (l.take k).map low2 = A := ⟨_, rfl⟩
      rw [hA] at HTM HPA HLOW
      have c5' := c5 cap
      clear hA hp5 hva hvb hA5 hs5 hb5 HC HB c5 hz4 hz5
      go_wp2_with ((with_reducible show wpList _ _ _ (⟨some 42, _, _, _, _, _⟩ :: _) _ _); refine wpList_append_fresh rfl _ _ 30 rfl 29 i1 _ 2 32 Tryd.underlying30 fi fz0 fz1 fz2 rfl (by decide) va k _ rfl HPA.out.ra ⟨w5.heap.size, 0, none⟩ 1 1 [.string cacheN, .string y] rfl rfl HCA.out (by simp [Value.oneCell']) HX1.out HX2.out ?_; intro va2 w6 ho hg hl; have HP6 := Lib.hid (HPA.out.stepA HSa.out ho hg hl); have HB6 := Lib.hid (HBa.out.grown hg HSa.out (fun g h => (HPA.out.na g h).1)); have HA6 : Hid (MBlk w6 g5 5 (mixRow y.data.toList 0 pad) (y.size + pad, y.size + pad + 1)) := Lib.hid (((Spares.refl (fun b => va.ownBlock = some b) _).grown hg (fun g h => .inl h)).heap HA5.out (fun h => Nat.lt_irrefl _ (HVA.out _ h))); have HVA2 : Hid (va2.ownBlock ≠ some g5) := Lib.hid (fun h => (hl _ h).elim (fun h => Nat.lt_irrefl _ (HVA.out _ h)) (fun h => Nat.lt_irrefl _ (Nat.lt_of_lt_of_le HZ5.out h))); have HZ6 : Hid (g5 < w6.heap.size) := Lib.hid (Nat.lt_of_lt_of_le HZ5.out hg.size); clear ho hg hl)
      clear c5'
      go_loopw [11] (fun i wz => ∃ (j : Nat) (N : List UInt8), j ≤ y.size ∧ i = .int .i64 j ∧ Hid (N.length = y.size ∧ lowF N = y.data.toList) ∧ Hid (MBlk wz g5 5 (mixRow N 0 pad) (y.size + pad, y.size + pad + 1)) ∧ Hid (Spares (fun b => b = g5) w6 wz)) (fun i _ => y.size - (intOf i).toNat)
      case atStart => exact ⟨0, y.data.toList, Nat.zero_le _, rfl, Lib.hid ⟨size_list y, HLY.out⟩, HA6, Lib.hid (Spares.refl _ _)⟩
      case round =>
        obtain ⟨j, N, hj, rfl, HN, HR, HS6⟩ := hrel
        by_cases hjl : j < y.size
        · have hjN : j < N.length := by have := HN.out.1; omega
          have a0 := HR.out.cell j
          rw [flip_get hjN] at a0
          have f0 := HR.out.frozen j (by show j < y.size + pad; omega)
          have HSET := Lib.hid (fun c => flip_set (pad := pad) hjN c)
          have HLS := Lib.hid (fun (c : UInt8) (h : small c = small N[j]) => low_set hjN h)
          obtain ⟨c, hc⟩ : ∃ c, N[j] = c := ⟨_, rfl⟩
          rw [hc] at a0 HLS
          have hc256 := u8_lt c
          clear hc hjN
          by_cases q1 : 97 ≤ c.toNat
          · by_cases q2 : c.toNat ≤ 122
            · by_cases q3 : j < ts.length
              · obtain ⟨bt, ot, rfl, hct⟩ := HTS1.out j q3
                have hbt : bt < w1.heap.size := cell_lt hct
                have t0 := (HS6.out.cell (p := ⟨bt, ot + j, none⟩) (Nat.lt_of_lt_of_le hbt HB6.out.size) (fun h => by have := HG5.out; change bt = g5 at h; omega)).trans ((HB6.out.cell (p := ⟨bt, ot + j, none⟩) hbt).trans hct)
                obtain ⟨t, htt⟩ : ∃ t, ts[j] = t := ⟨_, rfl⟩
                rw [htt] at t0
                have ht256 := u8_lt t
                clear htt hct hbt
                by_cases q4 : t.toNat % 2 = 1
                · have e1 : (t.toNat : Int).tmod 2 = 1 := by rw [Int.tmod_eq_emod_of_nonneg (by omega)]; omega
                  have e5 : IntKind.u8.wrap ((c.toNat : Int) - 32) = (c.toNat : Int) - 32 := IntWalk.u8_in _ (by omega)
                  have HUP := Lib.hid (up_low q1 q2)
                  clear q4
                  go_wp2
                  go_roundw
                  case rel =>
                    refine ⟨j + 1, N.set j (c - 32), by omega, by go_num, Lib.hid ⟨by rw [List.length_set]; exact HN.out.1, by rw [HLS.out (c - 32) HUP.out.1]; exact HN.out.2⟩, Lib.hid ?_, Lib.hid (HS6.out.setCell (.inl rfl) _)⟩
                    rw [← HSET.out, HUP.out.2]
                    exact HR.out.set_ j _
                  case measure => simp [intOf]; omega
                · have e1 : (t.toNat : Int).tmod 2 = 0 := by rw [Int.tmod_eq_emod_of_nonneg (by omega)]; omega
                  clear q4
                  go_wp2
                  go_roundw
                  case rel => exact ⟨j + 1, N, by omega, by go_num, HN, HR, HS6⟩
                  case measure => simp [intOf]; omega
              · go_wp2
                go_roundw
                case rel => exact ⟨j + 1, N, by omega, by go_num, HN, HR, HS6⟩
                case measure => simp [intOf]; omega
            · go_wp2
              go_roundw
              case rel => exact ⟨j + 1, N, by omega, by go_num, HN, HR, HS6⟩
              case measure => simp [intOf]; omega
          · go_wp2
            go_roundw
            case rel => exact ⟨j + 1, N, by omega, by go_num, HN, HR, HS6⟩
            case measure => simp [intOf]; omega
        · have c6 : (convert 38 9 (.slice (some ⟨g5, 0, none⟩) y.size cap)).run Tryd.prog wr = .ok (.string ⟨N.toArray⟩) wr := by
            have := flip_conv (cap := cap) HR.out
            rw [HN.out.1] at this
            exact this
          obtain ⟨z, hz⟩ : ∃ z : ByteArray, (⟨N.toArray⟩ : ByteArray) = z := ⟨_, rfl⟩
          have hlz : lowB z = y := by
            apply list_inj
            rw [lowB_list, ← hz]
            exact HN.out.2
          rw [hz] at c6
          have HLZ := Lib.hid hlz
          have hp := HP6.out.spares HS6.out (fun g h => by subst h; exact ⟨HVA2.out, HVB.out⟩)
          have HPB := Lib.hid (hp.spares ((Spares.refl nowhere wr).alloc (.cells #[.string cacheC, .string z] 29)) (fun g h => h.elim))
          have HCB := Lib.hid (field_new wr cacheC z)
          have hb7 : Below w1.heap.size w1 wr := HB6.out.trans (HS6.out.below HB6.out.size (fun b h e => by have := HG5.out; subst e; omega))
          have HBb := Lib.hid (hb7.alloc hb7.size (.cells #[.string cacheC, .string z] 29))
          have HSb := Lib.hid HBb.out.size
          clear hz hlz hp hb7
          go_wp2_with ((with_reducible show wpList _ _ _ (⟨some 86, _, _, _, _, _⟩ :: _) _ _); refine wpList_append_fresh rfl _ _ 30 rfl 29 i1 _ 2 32 Tryd.underlying30 fi fz0 fz1 fz2 rfl (by decide) vb k _ rfl HPB.out.rb ⟨wr.heap.size, 0, none⟩ 1 1 [.string cacheC, .string z] rfl rfl HCB.out (by simp [Value.oneCell']) HX1.out HX2.out ?_; intro vb2 w8 ho hg hl; have HP8 := Lib.hid (HPB.out.stepB HSb.out ho hg hl); have HB8 := Lib.hid (HBb.out.grown hg HSb.out (fun g h => HPB.out.nb g h)); clear ho hg hl)
          go_roundw
          case rel =>
            refine ⟨k + 1, M ++ [z], _, _, by omega, by go_num, rfl, rfl, Lib.hid ?_, HB8⟩
            have e : low2 l[k] = y := by rw [HLX.out, HX.out]
            rw [HTM.out, e]
            refine ⟨HP8.out, by rw [List.length_append, HLEN.out]; rfl, ?_, ?_⟩
            · have hyy : lowB y = y := list_inj (by rw [lowB_list]; exact HLY.out)
              rw [List.map_append, List.map_append, HLOW.out]
              simp only [List.map_cons, List.map_nil]
              rw [HLZ.out, hyy]
            · intro q hq
              rcases List.mem_append.1 hq with h | h
              · exact HSIZ.out q h
              · obtain rfl : q = z := by simpa using h
                have := lowB_size q
                rw [HLZ.out] at this
                omega
          case measure => simp [intOf]; omega
    · have hkl : k = l.length := by omega
      subst hkl
      have HA : Hid ((l.take l.length).map low2 = l.map low2) := Lib.hid (by rw [List.take_of_length_le (Nat.le_refl _)])
      rw [HA.out] at HC
      obtain ⟨A, hA⟩ : ∃ A, l.map low2 = A := ⟨_, rfl⟩
      have hAl : A.length = l.length := by rw [← hA, List.length_map]
      have hAs : ∀ x ∈ A, x.size ≤ 1000000 := by
        intro x hx
        rw [← hA] at hx
        obtain ⟨f, hf, rfl⟩ := List.mem_map.1 hx
        obtain ⟨j, hj, rfl⟩ := List.getElem_of_mem hf
        rw [low2_size]
        have := (HL.out j hj).2
        omega
      rw [hA] at HC
      have hMs : ∀ x ∈ M, x.size ≤ 1000000 := fun x hx => by have := HC.out.size x hx; omega
      have hMl := HC.out.len
      have hfa : FewF (fieldsO cacheN A) := few_fields (by decide) (by omega) hAs
      have hfm : FewF (fieldsO cacheC M) := few_fields (by decide) (by omega) hMs
      have hcase : parseF (fieldsO cacheC M) = parseF (fieldsO cacheN A) := parse_case (by decide +kernel) (by decide +kernel) HC.out.low
      have hprag : 0 < l.length → parseF (fieldsO cacheN A ++ [pragmaP]) = parseF (fieldsO cacheN A) := fun h => parse_pragma (by decide +kernel) (fun e => by rw [e] at hAl; simp at hAl; omega)
      have hfap : FewF (fieldsO cacheN A ++ [pragmaP]) := by
        have e : fieldsO cacheN A ++ [pragmaP] = fieldsO cacheN A ++ [pragmaP] := rfl
        refine ⟨by rw [List.length_append]; have := hfa.1; unfold fieldsO at *; rw [List.length_map] at *; simp only [List.length_cons, List.length_nil]; omega, fun j hj => ?_⟩
        by_cases hjl : j < (fieldsO cacheN A).length
        · rw [List.getElem_append_left hjl]
          exact hfa.2 j hjl
        · rw [List.getElem_append_right (by omega)]
          have : j - (fieldsO cacheN A).length = 0 := by rw [List.length_append] at hj; simp only [List.length_cons, List.length_nil] at hj; omega
          simp only [this]
          exact (by decide : pragmaP.1.size ≤ 1000000 ∧ pragmaP.2.size ≤ 1000000)
      have hfal : (fieldsO cacheN A).length = l.length := by unfold fieldsO; rw [List.length_map]; exact hAl
      have hfml : (fieldsO cacheC M).length = l.length := by unfold fieldsO; rw [List.length_map]; exact hMl
      have hfp : FewF [pragmaP] := ⟨by show 1 ≤ 100000; omega, fun j hj => by
        obtain rfl : j = 0 := by simpa using hj
        exact (by decide : pragmaP.1.size ≤ 1000000 ∧ pragmaP.2.size ≤ 1000000)⟩
      obtain ⟨cc, hcc⟩ : ∃ cc, parseF (fieldsO cacheN A) = cc := ⟨_, rfl⟩
      rw [hcc] at hcase hprag
      have HPAIR := Lib.hid HC.out.pair
      obtain ⟨av, cv, rfl, hinA⟩ := own_fieldsIn hfal HC.out.pair.ra
      obtain ⟨bv, dv, rfl, hinM⟩ := own_fieldsIn hfml HC.out.pair.rb
      have HINA := Lib.hid hinA
      have HINM := Lib.hid hinM
      have HFA := Lib.hid hfa
      have HFM := Lib.hid hfm
      have HFAP := Lib.hid hfap
      have HFP := Lib.hid hfp
      have HCASE := Lib.hid hcase
      have HPRAG := Lib.hid hprag
      have HFAL := Lib.hid hfal
      have HFML := Lib.hid hfml
      have HCC := Lib.hid hcc
      have HBR := HB
      clear hA hAl hAs HA hMs hMl hfa hfm hcase hprag hfap hfal hfml hfp hcc hinA hinM HC HB
      obtain ⟨wq, rfl⟩ : ∃ wq : World, wq = wr := ⟨_, rfl⟩
      obtain ⟨v0, hv0⟩ : ∃ v0, wq.alloc (.cells #[.string ⟨#[80, 82, 65, 71, 77, 65]⟩, .string ⟨#[120, 44, 32, 78, 111, 45, 67, 97, 99, 104, 101]⟩] 29) = v0 := ⟨_, rfl⟩
      have hb0 : Below wq.heap.size wq v0 := by rw [← hv0]; exact (Below.refl _ _).alloc (Nat.le_refl _) _
      have hp0 : FieldsIn v0.heap.size v0 (some ⟨wq.heap.size, 0, none⟩) [pragmaP] := by
        have := one_fields wq pragmaP
        have hz : v0.heap.size = wq.heap.size + 1 := by rw [← hv0]; simp
        rw [hz, ← hv0]
        exact this
      have cP := parse_any (fieldsO cacheN A) av cv v0 (kin_in (w := wq) ⟨v0, hb0⟩ HINA.out) HFA.out
      unfold ParsePost at cP
      rw [HFAL.out, HCC.out] at cP
      have CP := Lib.hid cP
      have HV0 := Lib.hid hv0
      have HB0 := Lib.hid hb0
      have HP0 := Lib.hid hp0
      clear hv0 hb0 hp0 cP
      go_wp2_with fail
      change Calls _ _ _ (wq.alloc (.cells #[.string ⟨#[80, 82, 65, 71, 77, 65]⟩, .string ⟨#[120, 44, 32, 78, 111, 45, 67, 97, 99, 104, 101]⟩] 29)) _
      rw [HV0.out]
      refine CP.out.mono ?_
      rintro e v1 ⟨rfl, hb1⟩
      unfold ctlV
      obtain ⟨v2, hv2⟩ : ∃ v2, v1.alloc (.cells #[.bool cc.noStore, .bool cc.noCache, .bool cc.priv, .bool cc.pub, .bool cc.must, .bool cc.prox, .bool cc.only, .bool cc.anyStale, .int .i64 cc.maxA, .int .i64 cc.sMax, .int .i64 cc.minF, .int .i64 cc.maxS] 23) = v2 := ⟨_, rfl⟩
      have hb02 : Below v0.heap.size v0 v2 := by rw [← hv2]; exact hb1.alloc hb1.size _
      have hbq2 : Below wq.heap.size wq v2 := HB0.out.trans (hb02.mono HB0.out.size)
      have hc2 : CtlAt v2 v1.heap.size cc := by unfold CtlAt; rw [← hv2]; exact heap_alloc_new v1 _
      have hq1 : wq.heap.size < v1.heap.size := Nat.lt_of_lt_of_le (by rw [← HV0.out]; simp) hb1.size
      have hp2 : FieldsIn v2.heap.size v2 (some ⟨wq.heap.size, 0, none⟩) [pragmaP] := kin_in (w := v0) ⟨v2, hb02⟩ HP0.out
      have HV2 := Lib.hid hv2
      have HBF := Lib.hid (HB1.out.trans ((HBR.out.trans (hbq2.mono HBR.out.size)).mono HB1.out.size))
      have HB1F : Hid (Below w1.heap.size w1 v2) := Lib.hid (HBR.out.trans (hbq2.mono HBR.out.size))
      have HPR2 := Lib.hid (HPAIR.out.spares (Below.spares (F := nowhere) hbq2 (fun k hk => .inr hk)) (fun g h => h.elim))
      -- what the last region reads: the Control, Pragma's field
      have HSEE : Hid (∀ x, Spares (fun b => (Value.slice av l.length cv).ownBlock = some b) v2 x → (x.cell? ⟨v1.heap.size, 0, none⟩ = some (.bool cc.noStore) ∧ x.cell? ⟨v1.heap.size, 1, none⟩ = some (.bool cc.noCache) ∧ x.cell? ⟨v1.heap.size, 2, none⟩ = some (.bool cc.priv) ∧ x.cell? ⟨v1.heap.size, 3, none⟩ = some (.bool cc.pub) ∧ x.cell? ⟨v1.heap.size, 4, none⟩ = some (.bool cc.must) ∧ x.cell? ⟨v1.heap.size, 5, none⟩ = some (.bool cc.prox) ∧ x.cell? ⟨v1.heap.size, 6, none⟩ = some (.bool cc.only) ∧ x.cell? ⟨v1.heap.size, 7, none⟩ = some (.bool cc.anyStale) ∧ x.cell? ⟨v1.heap.size, 8, none⟩ = some (.int .i64 cc.maxA) ∧ x.cell? ⟨v1.heap.size, 9, none⟩ = some (.int .i64 cc.sMax) ∧ x.cell? ⟨v1.heap.size, 10, none⟩ = some (.int .i64 cc.minF) ∧ x.cell? ⟨v1.heap.size, 11, none⟩ = some (.int .i64 cc.maxS) ∧ x.cell? ⟨wq.heap.size, 0, none⟩ = some (.string ⟨#[80, 82, 65, 71, 77, 65]⟩) ∧ x.cell? ⟨wq.heap.size, 1, none⟩ = some (.string ⟨#[120, 44, 32, 78, 111, 45, 67, 97, 99, 104, 101]⟩))) := Lib.hid (fun x hx => by
        have hc : CtlAt x v1.heap.size cc := hc2.spares hx (fun e => by have := (World.ownsRow.lt HPAIR.out.ra _ e).2; omega)
        obtain ⟨n0, n1, n2, n3, n4, n5, n6, n7, n8, n9, n10, n11⟩ := ctl_reads hc
        obtain ⟨b, off, e1, e2, e3, e4⟩ := hp2 0 (by show 0 < 1; omega)
        injection e1 with e1
        injection e1 with e5 e6
        subst e5; subst e6
        have hne : ¬ ((Value.slice av l.length cv).ownBlock = some wq.heap.size) := fun e => by have := (World.ownsRow.lt HPAIR.out.ra _ e).2; omega
        exact ⟨n0, n1, n2, n3, n4, n5, n6, n7, n8, n9, n10, n11, (hx.cell (p := ⟨wq.heap.size, 0, none⟩) e2 hne).trans e3, (hx.cell (p := ⟨wq.heap.size, 1, none⟩) e2 hne).trans e4⟩)
      have HQ1 := Lib.hid hq1
      have HBQ2 := Lib.hid hbq2
      clear hv2 hb02 hbq2 hc2 hq1 hp2 hb1
      have HFIN : Hid (∀ x, Spares (fun b => (Value.slice av l.length cv).ownBlock = some b) v2 x → Below w.heap.size w x) := Lib.hid (fun x hx => HBF.out.trans (hx.below HBF.out.size (fun k hk e => by have := (HPAIR.out.na k e).1; have := HB1.out.size; omega)))
      by_cases hpos : pragma = true ∧ 0 < l.length
      · obtain ⟨hpt, hpos⟩ := hpos
        subst hpt
        have HPQ := Lib.hid (HPRAG.out hpos)
        obtain ⟨i1, fi, fz0, fz1, fz2⟩ := infoField
        have HOW : Hid ((v2.alloc (.cells #[.string ⟨#[80, 82, 65, 71, 77, 65]⟩, .string ⟨#[120, 44, 32, 78, 111, 45, 67, 97, 99, 104, 101]⟩] 29)).drew.ownsRow 0 29 2 (.slice av l.length cv) l.length (fieldCells (fieldsO cacheN A))) := Lib.hid (World.ownsRow.alloc HPR2.out.ra (.cells #[.string ⟨#[80, 82, 65, 71, 77, 65]⟩, .string ⟨#[120, 44, 32, 78, 111, 45, 67, 97, 99, 104, 101]⟩] 29))
        have HNC : Hid (∀ j u, [Value.string ⟨#[80, 82, 65, 71, 77, 65]⟩, Value.string ⟨#[120, 44, 32, 78, 111, 45, 67, 97, 99, 104, 101]⟩][j]? = some u → (v2.alloc (.cells #[.string ⟨#[80, 82, 65, 71, 77, 65]⟩, .string ⟨#[120, 44, 32, 78, 111, 45, 67, 97, 99, 104, 101]⟩] 29)).drew.cell? ((⟨v2.heap.size, 0, none⟩ : Addr).add j) = some u) := Lib.hid (field_new v2 ⟨#[80, 82, 65, 71, 77, 65]⟩ ⟨#[120, 44, 32, 78, 111, 45, 67, 97, 99, 104, 101]⟩)
        have HX1 : Hid (l.length + 1 ≤ maxLen) := Lib.hid (by unfold maxLen; omega)
        have HX2 : Hid ((l.length + 1) * 32 ≤ 140737488355328) := Lib.hid (by omega)
        have HSZ : Hid ((v2.alloc (.cells #[.string ⟨#[80, 82, 65, 71, 77, 65]⟩, .string ⟨#[120, 44, 32, 78, 111, 45, 67, 97, 99, 104, 101]⟩] 29)).drew.heap.size = v2.heap.size + 1) := Lib.hid (by show (v2.alloc (.cells #[.string ⟨#[80, 82, 65, 71, 77, 65]⟩, .string ⟨#[120, 44, 32, 78, 111, 45, 67, 97, 99, 104, 101]⟩] 29)).heap.size = _; simp)
        have HS0 : Hid (Spares (fun b => (Value.slice av l.length cv).ownBlock = some b) v2 v2.drew) := Lib.hid (Spares.refl _ _).drew
        have HS1 : Hid (Spares (fun b => (Value.slice av l.length cv).ownBlock = some b) v2 (v2.alloc (.cells #[.string ⟨#[80, 82, 65, 71, 77, 65]⟩, .string ⟨#[120, 44, 32, 78, 111, 45, 67, 97, 99, 104, 101]⟩] 29)).drew) := Lib.hid ((Spares.refl _ _).alloc _).drew
        have CPX : Hid (∀ (x : World) (gg cg : Nat), x.ownsRow 0 29 2 (.slice (some ⟨gg, 0, none⟩) (l.length + 1) cg) (l.length + 1) (fieldCells (fieldsO cacheN A) ++ [.string ⟨#[80, 82, 65, 71, 77, 65]⟩, .string ⟨#[120, 44, 32, 78, 111, 45, 67, 97, 99, 104, 101]⟩]) → Calls Tryd.prog 13 #[.slice (some ⟨gg, 0, none⟩) (l.length + 1) cg] x fun e w' => e = .returned (.agg #[.bool cc.noStore, .bool cc.noCache, .bool cc.priv, .bool cc.pub, .bool cc.must, .bool cc.prox, .bool cc.only, .bool cc.anyStale, .int .i64 cc.maxA, .int .i64 cc.sMax, .int .i64 cc.minF, .int .i64 cc.maxS]) ∧ Below x.heap.size x w') := Lib.hid (fun x gg cg ho => by
          have hL : (fieldsO cacheN A ++ [pragmaP]).length = l.length + 1 := by rw [List.length_append, HFAL.out]; rfl
          have e : fieldCells (fieldsO cacheN A) ++ [.string ⟨#[80, 82, 65, 71, 77, 65]⟩, .string ⟨#[120, 44, 32, 78, 111, 45, 67, 97, 99, 104, 101]⟩] = fieldCells (fieldsO cacheN A ++ [pragmaP]) := by simp [fieldCells, pragmaP]
          rw [e] at ho
          obtain ⟨a', c', e1, hin⟩ := own_fieldsIn hL ho
          injection e1 with e1 e2 e3
          subst e1; subst e3
          have := parse_any (fieldsO cacheN A ++ [pragmaP]) (some ⟨gg, 0, none⟩) cg x hin HFAP.out
          unfold ParsePost at this
          rw [HPQ.out, hL] at this
          exact this)
        go_wp2
        change Code.wp _ (Code.region _ _ _) _ _ (v1.alloc (.cells #[.bool cc.noStore, .bool cc.noCache, .bool cc.priv, .bool cc.pub, .bool cc.must, .bool cc.prox, .bool cc.only, .bool cc.anyStale, .int .i64 cc.maxA, .int .i64 cc.sMax, .int .i64 cc.minF, .int .i64 cc.maxS] 23))
        rw [HV2.out]
        have s0 := HSEE.out v2.drew HS0.out
        have s1 := HSEE.out (v2.alloc (.cells #[.string ⟨#[80, 82, 65, 71, 77, 65]⟩, .string ⟨#[120, 44, 32, 78, 111, 45, 67, 97, 99, 104, 101]⟩] 29)).drew HS1.out
        go_region_held3 (fun x => x.cell? ⟨v1.heap.size, 0, none⟩ = some (.bool cc.noStore) ∧ x.cell? ⟨v1.heap.size, 1, none⟩ = some (.bool cc.noCache) ∧ x.cell? ⟨v1.heap.size, 2, none⟩ = some (.bool cc.priv) ∧ x.cell? ⟨v1.heap.size, 3, none⟩ = some (.bool cc.pub) ∧ x.cell? ⟨v1.heap.size, 4, none⟩ = some (.bool cc.must) ∧ x.cell? ⟨v1.heap.size, 5, none⟩ = some (.bool cc.prox) ∧ x.cell? ⟨v1.heap.size, 6, none⟩ = some (.bool cc.only) ∧ x.cell? ⟨v1.heap.size, 7, none⟩ = some (.bool cc.anyStale) ∧ x.cell? ⟨v1.heap.size, 8, none⟩ = some (.int .i64 cc.maxA) ∧ x.cell? ⟨v1.heap.size, 9, none⟩ = some (.int .i64 cc.sMax) ∧ x.cell? ⟨v1.heap.size, 10, none⟩ = some (.int .i64 cc.minF) ∧ x.cell? ⟨v1.heap.size, 11, none⟩ = some (.int .i64 cc.maxS) ∧ x.cell? ⟨wq.heap.size, 0, none⟩ = some (.string ⟨#[80, 82, 65, 71, 77, 65]⟩) ∧ x.cell? ⟨wq.heap.size, 1, none⟩ = some (.string ⟨#[120, 44, 32, 78, 111, 45, 67, 97, 99, 104, 101]⟩))
          (first | exact s6 | exact s5 | exact s1 | exact s0 | go_keep)
          (first
            | (refine step_append_lies _ (by rfl) _ _ _ (by rfl) 0 29 i1 _ 2 32 Tryd.underlying30 fi fz0 fz1 fz2 rfl (by decide) _ l.length (fieldCells (fieldsO cacheN A)) (by rfl) HOW.out ⟨v2.heap.size, 0, none⟩ 1 1 [.string ⟨#[80, 82, 65, 71, 77, 65]⟩, .string ⟨#[120, 44, 32, 78, 111, 45, 67, 97, 99, 104, 101]⟩] (by rfl) (by rfl) HNC.out (by simp [Value.oneCell']) Nat.one_pos HX1.out HX2.out (Nat.zero_le _) (v2.heap.size + 1) HSZ.out ?_
               intro gg cg w5 hown' hgrow _ _
               have HS5 := Lib.hid (HS1.out.grown hgrow (fun g h => .inl h))
               have HO5 := Lib.hid hown'
               have s5 := HSEE.out w5 HS5.out
               clear hown' hgrow)
            | (go_simp
               go_at_call 13
               refine (CPX.out w5 gg cg HO5.out).mono ?_
               rintro e w6 ⟨rfl, hb6⟩
               have HS6 := Lib.hid (HS5.out.trans (Below.spares hb6 (fun k hk => .inr hk)))
               have s6 := HSEE.out w6 HS6.out
               clear hb6))
        all_goals
          have HF := Lib.hid (HFIN.out _ HS6.out)
          clear s0 s1 s5 s6
          go_wp2
          go_ret
          exact ⟨rfl, HF.out⟩
      · have HPO := Lib.hid pragma_one
        obtain ⟨cp, hcp⟩ : ∃ cp, parseF [pragmaP] = cp := ⟨_, rfl⟩
        rw [hcp] at HPO
        have CPB : Hid (Calls Tryd.prog 13 #[.slice bv l.length dv] v2.drew fun e w' => e = .returned (.agg #[.bool cc.noStore, .bool cc.noCache, .bool cc.priv, .bool cc.pub, .bool cc.must, .bool cc.prox, .bool cc.only, .bool cc.anyStale, .int .i64 cc.maxA, .int .i64 cc.sMax, .int .i64 cc.minF, .int .i64 cc.maxS]) ∧ Below v2.heap.size v2 w') := Lib.hid (by
          have := parse_any (fieldsO cacheC M) bv dv v2.drew (kin_in (w := wq) ⟨v2.drew, HBQ2.out.drew⟩ HINM.out) HFM.out
          unfold ParsePost at this
          rw [HCASE.out, HFML.out] at this
          exact this.mono fun _ _ ⟨he, hb⟩ => ⟨he, (Below.refl _ v2).drew.trans hb⟩)
        have CPP : Hid (∀ x : World, Calls Tryd.prog 13 #[.slice (some ⟨x.heap.size, 0, none⟩) 1 1] (x.alloc (.cells #[.string ⟨#[80, 82, 65, 71, 77, 65]⟩, .string ⟨#[120, 44, 32, 78, 111, 45, 67, 97, 99, 104, 101]⟩] 29)) fun e w' => e = .returned (.agg #[.bool cp.noStore, .bool true, .bool cp.priv, .bool cp.pub, .bool cp.must, .bool cp.prox, .bool cp.only, .bool cp.anyStale, .int .i64 cp.maxA, .int .i64 cp.sMax, .int .i64 cp.minF, .int .i64 cp.maxS]) ∧ Below x.heap.size x w') := Lib.hid (fun x => by
          have := parse_any [pragmaP] (some ⟨x.heap.size, 0, none⟩) 1 (x.alloc (.cells #[.string ⟨#[80, 82, 65, 71, 77, 65]⟩, .string ⟨#[120, 44, 32, 78, 111, 45, 67, 97, 99, 104, 101]⟩] 29)) (by have h := one_fields x pragmaP; rwa [show x.heap.size + 1 = (x.alloc (.cells #[.string pragmaP.1, .string pragmaP.2] 29)).heap.size by simp] at h) HFP.out
          unfold ParsePost at this
          rw [hcp] at this
          unfold ctlV at this
          rw [HPO.out] at this
          exact this.mono fun _ _ ⟨he, hb⟩ => ⟨he, ((Below.refl _ x).alloc (Nat.le_refl _) _).trans (hb.mono (by simp))⟩)
        have hfld : ∀ w, (Instr.field 23 (.agg #[.bool cp.noStore, .bool true, .bool cp.priv, .bool cp.pub, .bool cp.must, .bool cp.prox, .bool cp.only, .bool cp.anyStale, .int .i64 cp.maxA, .int .i64 cp.sMax, .int .i64 cp.minF, .int .i64 cp.maxS]) 1).run Tryd.prog w = .ok (.bool true) w := fun _ => by kernel_rfl
        clear hcp
        have HS0 : Hid (Spares (fun b => (Value.slice av l.length cv).ownBlock = some b) v2 v2.drew) := Lib.hid (Spares.refl _ _).drew
        have hgo : ∀ b : Bool, (pragma = b) → ¬ (b = true ∧ 0 < l.length) := fun b hb => by subst hb; exact hpos
        cases pragma with
        | true =>
          have hz : ¬ 0 < l.length := fun h => hpos ⟨rfl, h⟩
          clear hgo hpos
          go_wp2
          change Code.wp _ (Code.region _ _ _) _ _ (v1.alloc (.cells #[.bool cc.noStore, .bool cc.noCache, .bool cc.priv, .bool cc.pub, .bool cc.must, .bool cc.prox, .bool cc.only, .bool cc.anyStale, .int .i64 cc.maxA, .int .i64 cc.sMax, .int .i64 cc.minF, .int .i64 cc.maxS] 23))
          rw [HV2.out]
          have s0 := HSEE.out v2.drew HS0.out
          go_region_held3 (fun x => x.cell? ⟨v1.heap.size, 0, none⟩ = some (.bool cc.noStore) ∧ x.cell? ⟨v1.heap.size, 1, none⟩ = some (.bool cc.noCache) ∧ x.cell? ⟨v1.heap.size, 2, none⟩ = some (.bool cc.priv) ∧ x.cell? ⟨v1.heap.size, 3, none⟩ = some (.bool cc.pub) ∧ x.cell? ⟨v1.heap.size, 4, none⟩ = some (.bool cc.must) ∧ x.cell? ⟨v1.heap.size, 5, none⟩ = some (.bool cc.prox) ∧ x.cell? ⟨v1.heap.size, 6, none⟩ = some (.bool cc.only) ∧ x.cell? ⟨v1.heap.size, 7, none⟩ = some (.bool cc.anyStale) ∧ x.cell? ⟨v1.heap.size, 8, none⟩ = some (.int .i64 cc.maxA) ∧ x.cell? ⟨v1.heap.size, 9, none⟩ = some (.int .i64 cc.sMax) ∧ x.cell? ⟨v1.heap.size, 10, none⟩ = some (.int .i64 cc.minF) ∧ x.cell? ⟨v1.heap.size, 11, none⟩ = some (.int .i64 cc.maxS) ∧ x.cell? ⟨wq.heap.size, 0, none⟩ = some (.string ⟨#[80, 82, 65, 71, 77, 65]⟩) ∧ x.cell? ⟨wq.heap.size, 1, none⟩ = some (.string ⟨#[120, 44, 32, 78, 111, 45, 67, 97, 99, 104, 101]⟩))
            (first | exact s7 | exact s6 | exact s5 | exact s0 | go_keep)
            (first
              | (go_simp
                 go_at_call 13
                 (with_reducible refine CPB.out.mono ?_)
                 rintro e w5 ⟨rfl, hb5⟩
                 have HS5 : Hid (Spares (fun b => (Value.slice av l.length cv).ownBlock = some b) v2 w5) := Lib.hid (Below.spares hb5 (fun k hk => .inr hk))
                 have s5 := HSEE.out w5 HS5.out
                 have s6 := HSEE.out (w5.alloc (.cells #[.string ⟨#[80, 82, 65, 71, 77, 65]⟩, .string ⟨#[120, 44, 32, 78, 111, 45, 67, 97, 99, 104, 101]⟩] 29)) (HS5.out.alloc _)
                 clear hb5)
              | (go_simp
                 go_at_call 13
                 (with_reducible refine (CPP.out w5).mono ?_)
                 rintro e w7 ⟨rfl, hb7⟩
                 have HS7 : Hid (Spares (fun b => (Value.slice av l.length cv).ownBlock = some b) v2 w7) := Lib.hid (HS5.out.trans (Below.spares hb7 (fun k hk => .inr hk)))
                 have s7 := HSEE.out w7 HS7.out
                 clear hb7))
          all_goals
            have HF := Lib.hid (HFIN.out _ HS7.out)
            clear s0 s5 s6 s7
            go_wp2
            go_ret
            exact ⟨rfl, HF.out⟩
        | false =>
          clear hgo hpos
          go_wp2
          change Code.wp _ (Code.region _ _ _) _ _ (v1.alloc (.cells #[.bool cc.noStore, .bool cc.noCache, .bool cc.priv, .bool cc.pub, .bool cc.must, .bool cc.prox, .bool cc.only, .bool cc.anyStale, .int .i64 cc.maxA, .int .i64 cc.sMax, .int .i64 cc.minF, .int .i64 cc.maxS] 23))
          rw [HV2.out]
          have s0 := HSEE.out v2.drew HS0.out
          go_region_held3 (fun x => x.cell? ⟨v1.heap.size, 0, none⟩ = some (.bool cc.noStore) ∧ x.cell? ⟨v1.heap.size, 1, none⟩ = some (.bool cc.noCache) ∧ x.cell? ⟨v1.heap.size, 2, none⟩ = some (.bool cc.priv) ∧ x.cell? ⟨v1.heap.size, 3, none⟩ = some (.bool cc.pub) ∧ x.cell? ⟨v1.heap.size, 4, none⟩ = some (.bool cc.must) ∧ x.cell? ⟨v1.heap.size, 5, none⟩ = some (.bool cc.prox) ∧ x.cell? ⟨v1.heap.size, 6, none⟩ = some (.bool cc.only) ∧ x.cell? ⟨v1.heap.size, 7, none⟩ = some (.bool cc.anyStale) ∧ x.cell? ⟨v1.heap.size, 8, none⟩ = some (.int .i64 cc.maxA) ∧ x.cell? ⟨v1.heap.size, 9, none⟩ = some (.int .i64 cc.sMax) ∧ x.cell? ⟨v1.heap.size, 10, none⟩ = some (.int .i64 cc.minF) ∧ x.cell? ⟨v1.heap.size, 11, none⟩ = some (.int .i64 cc.maxS) ∧ x.cell? ⟨wq.heap.size, 0, none⟩ = some (.string ⟨#[80, 82, 65, 71, 77, 65]⟩) ∧ x.cell? ⟨wq.heap.size, 1, none⟩ = some (.string ⟨#[120, 44, 32, 78, 111, 45, 67, 97, 99, 104, 101]⟩))
            (first | exact s7 | exact s6 | exact s5 | exact s0 | go_keep)
            (first
              | (go_simp
                 go_at_call 13
                 (with_reducible refine CPB.out.mono ?_)
                 rintro e w5 ⟨rfl, hb5⟩
                 have HS5 : Hid (Spares (fun b => (Value.slice av l.length cv).ownBlock = some b) v2 w5) := Lib.hid (Below.spares hb5 (fun k hk => .inr hk))
                 have s5 := HSEE.out w5 HS5.out
                 have s6 := HSEE.out (w5.alloc (.cells #[.string ⟨#[80, 82, 65, 71, 77, 65]⟩, .string ⟨#[120, 44, 32, 78, 111, 45, 67, 97, 99, 104, 101]⟩] 29)) (HS5.out.alloc _)
                 clear hb5)
              | (go_simp
                 go_at_call 13
                 (with_reducible refine (CPP.out w5).mono ?_)
                 rintro e w7 ⟨rfl, hb7⟩
                 have HS7 : Hid (Spares (fun b => (Value.slice av l.length cv).ownBlock = some b) v2 w7) := Lib.hid (HS5.out.trans (Below.spares hb7 (fun k hk => .inr hk)))
                 have s7 := HSEE.out w7 HS7.out
                 clear hb7))
          all_goals
            have HF := Lib.hid (HFIN.out _ HS7.out)
            clear s0 s5 s6 s7
            go_wp2
            go_ret
            exact ⟨rfl, HF.out⟩
end Go.Proofs.YtkpkpfolgbpjbaaDoor
namespace Go.Proofs.YtkpkpfolgbpjbaaDoor
open Go.RowKit Go.Deep
open Go.WideShapes Go.ChangeAt

set_option maxRecDepth 100000
theorem aggN_open {H : Type} {enc : TypeId × Value → H} {P : Program} {W : World} {t : TypeId} {fs : Array Field} {v : Value} {d : DataW H} {p : List MemPlace} {r : Reach} {b0 : Nat} (hs : P.underlying t = some (.struct fs)) (hone : oneCellFields P fs = true) (hC : P.cellsOf t = fs.size)
    (hv : Value.okWide P W r b0 t v) (h : DataW.Trod enc P W 0 (fun _ => true) true t v d p) :
    ∃ cs : Array Value, v = .agg cs ∧ cs.size = fs.size ∧ ∃ n, ∀ (j : Nat) (f : Field), fs[j]? = some f → ∃ u y, cs[j]? = some u ∧ DataW.trod enc P W 0 (fun _ => true) true n f.type [u] = some y := by
  obtain ⟨cs, rfl, hsz⟩ := okWide_struct hs hv
  obtain ⟨fuel, hf⟩ := h
  obtain ⟨ys, n', _, _, hl, hyl, hy⟩ := DataW.trod_struct hs hf
  refine ⟨cs, rfl, hsz.trans hC, n', fun j f hj => ?_⟩
  have hjl : j < fs.size := (Array.getElem?_eq_some_iff.1 hj).1
  have hcj : j < cs.size := by omega
  obtain ⟨h1, h2⟩ := hone_of hone j f hj
  have h3 := hy j f hj
  have e : (Value.agg cs).cells.toList = cs.toList := by simp [Value.cells]
  rw [e, h1, h2, List.drop_eq_getElem_cons (by simpa using hcj)] at h3
  refine ⟨cs[j], ys[j]'(by omega), Array.getElem?_eq_getElem _, ?_⟩
  rw [List.getElem?_eq_getElem (by omega)] at h3
  simpa using h3
theorem array12 {cs : Array Value} (h : cs.size = 12) : ∃ v0 v1 v2 v3 v4 v5 v6 v7 v8 v9 v10 v11, cs = #[v0, v1, v2, v3, v4, v5, v6, v7, v8, v9, v10, v11] := by
  obtain ⟨l⟩ := cs
  match l, h with
  | [v0, v1, v2, v3, v4, v5, v6, v7, v8, v9, v10, v11], _ => exact ⟨_, _, _, _, _, _, _, _, _, _, _, _, rfl⟩
section
variable {H : Type} {W : World} {enc : TypeId × Value → H}
theorem i64_wide {x : Int} (h : (Lit.int .i64 x).wf = true) : -9223372036854775808 ≤ x ∧ x ≤ 9223372036854775807 := by
  simp [Lit.wf] at h
  have e1 : IntKind.i64.min = -9223372036854775808 := by decide
  rw [e1] at h
  omega
theorem ctl_open {v : Value} {d : DataW H} {p : List MemPlace} {r : Reach} {b0 : Nat} (hv : Value.okWide Tryd.prog W r b0 23 v) (h : DataW.Trod enc Tryd.prog W 0 (fun _ => true) true 23 v d p) :
    ∃ c : Ctl, v = ctlV c ∧ c.wide := by
  obtain ⟨cs, rfl, hsz, n, hg⟩ := aggN_open Tryd.underlying23 (by kernel_rfl) (by kernel_rfl) hv h
  obtain ⟨v0, v1, v2, v3, v4, v5, v6, v7, v8, v9, v10, v11, rfl⟩ := array12 (hsz.trans rfl)
  obtain ⟨u, y, hu, ht⟩ := hg 0 _ rfl
  obtain rfl : v0 = u := by simpa using hu
  obtain ⟨z0, e0, _⟩ := DataW.trod_bool Tryd.underlying4 ht
  injection e0 with e0
  subst e0
  clear hu ht
  obtain ⟨u, y, hu, ht⟩ := hg 1 _ rfl
  obtain rfl : v1 = u := by simpa using hu
  obtain ⟨z1, e1, _⟩ := DataW.trod_bool Tryd.underlying4 ht
  injection e1 with e1
  subst e1
  clear hu ht
  obtain ⟨u, y, hu, ht⟩ := hg 2 _ rfl
  obtain rfl : v2 = u := by simpa using hu
  obtain ⟨z2, e2, _⟩ := DataW.trod_bool Tryd.underlying4 ht
  injection e2 with e2
  subst e2
  clear hu ht
  obtain ⟨u, y, hu, ht⟩ := hg 3 _ rfl
  obtain rfl : v3 = u := by simpa using hu
  obtain ⟨z3, e3, _⟩ := DataW.trod_bool Tryd.underlying4 ht
  injection e3 with e3
  subst e3
  clear hu ht
  obtain ⟨u, y, hu, ht⟩ := hg 4 _ rfl
  obtain rfl : v4 = u := by simpa using hu
  obtain ⟨z4, e4, _⟩ := DataW.trod_bool Tryd.underlying4 ht
  injection e4 with e4
  subst e4
  clear hu ht
  obtain ⟨u, y, hu, ht⟩ := hg 5 _ rfl
  obtain rfl : v5 = u := by simpa using hu
  obtain ⟨z5, e5, _⟩ := DataW.trod_bool Tryd.underlying4 ht
  injection e5 with e5
  subst e5
  clear hu ht
  obtain ⟨u, y, hu, ht⟩ := hg 6 _ rfl
  obtain rfl : v6 = u := by simpa using hu
  obtain ⟨z6, e6, _⟩ := DataW.trod_bool Tryd.underlying4 ht
  injection e6 with e6
  subst e6
  clear hu ht
  obtain ⟨u, y, hu, ht⟩ := hg 7 _ rfl
  obtain rfl : v7 = u := by simpa using hu
  obtain ⟨z7, e7, _⟩ := DataW.trod_bool Tryd.underlying4 ht
  injection e7 with e7
  subst e7
  clear hu ht
  obtain ⟨u, y, hu, ht⟩ := hg 8 _ rfl
  obtain rfl : v8 = u := by simpa using hu
  obtain ⟨z8, e8, _, w8⟩ := DataW.trod_int Tryd.underlying2 ht
  injection e8 with e8
  subst e8
  clear hu ht
  obtain ⟨u, y, hu, ht⟩ := hg 9 _ rfl
  obtain rfl : v9 = u := by simpa using hu
  obtain ⟨z9, e9, _, w9⟩ := DataW.trod_int Tryd.underlying2 ht
  injection e9 with e9
  subst e9
  clear hu ht
  obtain ⟨u, y, hu, ht⟩ := hg 10 _ rfl
  obtain rfl : v10 = u := by simpa using hu
  obtain ⟨z10, e10, _, w10⟩ := DataW.trod_int Tryd.underlying2 ht
  injection e10 with e10
  subst e10
  clear hu ht
  obtain ⟨u, y, hu, ht⟩ := hg 11 _ rfl
  obtain rfl : v11 = u := by simpa using hu
  obtain ⟨z11, e11, _, w11⟩ := DataW.trod_int Tryd.underlying2 ht
  injection e11 with e11
  subst e11
  clear hu ht
  exact ⟨⟨z0, z1, z2, z3, z4, z5, z6, z7, z8, z9, z10, z11⟩, rfl, i64_wide w8, i64_wide w9, i64_wide w10, i64_wide w11⟩
end
theorem pow10_data : (Rows.laid_internal_strconv_uint64pow10 : DataW Unit) = Lib.tabData .u64 Lib.pow10Tab := by kernel_rfl
theorem tab_of_laid {W : World} {laid : List (String × DataW Unit)} (h : laidMet Tryd.prog laid W) (hm : ("internal/strconv.uint64pow10", (Rows.laid_internal_strconv_uint64pow10 : DataW Unit)) ∈ laid) : TabW W := by
  obtain ⟨ps, hl, _⟩ := h
  obtain ⟨g, t, cs, fuel, p, h1, h2, h3, h4⟩ := laid_mem hl hm
  rw [pow10_data] at h4
  have hg : Tryd.prog.globalNamed "internal/strconv.uint64pow10" = some 1 := by kernel_rfl
  obtain rfl := Option.some.inj (h1.symm.trans hg)
  obtain rfl := Option.some.inj (h2.symm.trans (show (Tryd.prog.globals[1]?).map (·.type) = some 116 by kernel_rfl))
  have hc := Lib.cells_of_tab Tryd.underlying116 Tryd.underlying97 (by kernel_rfl) (by kernel_rfl) h4
  unfold TabW Lib.TabIs
  rw [h3, ← hc]
theorem TabW.pos {w : World} (h : TabW w)   : 1 < w.heap.size := by
  unfold TabW Lib.TabIs World.var? at h
  rw [show Tryd.prog.globalNamed "internal/strconv.uint64pow10" = some 1 by kernel_rfl] at h
  simp only [Option.bind_some] at h
  rcases Nat.lt_or_ge 1 w.heap.size with h' | h'
  · exact h'
  · rw [Array.getElem?_eq_none h'] at h; cases h
end Go.Proofs.YtkpkpfolgbpjbaaDoor
namespace Go.Proofs.YtkpkpfolgbpjbaaDoor
open Go.ChangeShapes Go.WideShapes Go.ChangeAt Go.RowKit HeadS

/-- A slice of fields that came in. -/
theorem fieldsIn_open {H : Type} {enc : TypeId × Value → H} {W : World} {d : DataW H} {p : List MemPlace} {fuel : Nat} {a : Option Addr} {len cap : Nat}
    (hf : DataW.trod enc Tryd.prog W 0 (fun _ => true) true fuel 30 (Value.slice a len cap).cells.toList = some (d, p)) :
    ∃ fs : List (ByteArray × ByteArray), fs.length = len ∧ FieldsIn W.heap.size W a fs ∧ len ≤ maxLen ∧ ∀ j (h : j < fs.length), (fs[j]).1.size ≤ maxLen ∧ (fs[j]).2.size ≤ maxLen := by
  obtain ⟨h1, h2, h3, h4⟩ := structs_open Tryd.underlying30 Tryd.underlying29 (by kernel_rfl) (by kernel_rfl) (by decide) hf
  have hx : ∀ i : Fin len, ∃ f : ByteArray × ByteArray, (∃ b off, a = some ⟨b, off, none⟩ ∧ b < W.heap.size ∧ W.cell? ⟨b, off + i.val * 2, none⟩ = some (.string f.1) ∧ W.cell? ⟨b, off + i.val * 2 + 1, none⟩ = some (.string f.2)) ∧ f.1.size ≤ maxLen ∧ f.2.size ≤ maxLen := by
    intro i
    obtain ⟨b, off, ha, n, hj⟩ := h4 i.val i.isLt
    obtain ⟨v0, y0, hc0, ht0⟩ := hj 0 _ rfl
    obtain ⟨v1, y1, hc1, ht1⟩ := hj 1 _ rfl
    obtain ⟨s0, e0, _, z0⟩ := DataW.trod_string Tryd.underlying9 ht0
    obtain ⟨s1, e1, _, z1⟩ := DataW.trod_string Tryd.underlying9 ht1
    injection e0 with e0 _
    injection e1 with e1 _
    subst e0; subst e1
    refine ⟨(s0, s1), ⟨b, off, ha, ?_, hc0, hc1⟩, z0, z1⟩
    rcases Nat.lt_or_ge b W.heap.size with h' | h'
    · exact h'
    · simp [World.cell?, Array.getElem?_eq_none h'] at hc0
  refine ⟨List.ofFn fun i => Classical.choose (hx i), by simp, ?_, h1, ?_⟩
  · intro k hk
    have hk' : k < len := by simpa using hk
    obtain ⟨⟨b, off, ha, hb, hc, hd⟩, _⟩ := Classical.choose_spec (hx ⟨k, hk'⟩)
    exact ⟨b, off, ha, hb, by simpa using hc, by simpa using hd⟩
  · intro j hj
    have hj' : j < len := by simpa using hj
    have := (Classical.choose_spec (hx ⟨j, hj'⟩)).2
    simpa using this
end Go.Proofs.YtkpkpfolgbpjbaaDoor
namespace Go.Proofs.YtkpkpfolgbpjbaaDoor
open Go.RowKit HeadMath HeadS

set_option maxRecDepth 100000 in
set_option maxHeartbeats 32000000 in
theorem order_any (la lb : List Nat) (aa ab : Option Addr) (ca cb : Nat) (turn : Int) (w : World) (hat : U16At w aa la) (hbt : U16At w ab lb) (ha16 : ∀ n ∈ la, n ≤ 65535) (hb16 : ∀ n ∈ lb, n ≤ 65535) (ht : TabW w) (hw : 1 < w.heap.size) (t1 : -9223372036854775808 ≤ turn) (t2 : turn ≤ 9223372036854775807) (hla : la.length ≤ 9223372036854775807) (hlb : lb.length ≤ 9223372036854775807) :
    Calls Tryd.prog 4 #[.slice aa la.length ca, .slice ab lb.length cb, .int .i64 turn] w (Yes w) := by
  have HAT := Lib.hid hat
  have HBT := Lib.hid hbt
  have HA16 := Lib.hid ha16
  have HB16 := Lib.hid hb16
  have HT := Lib.hid ht
  have HW := Lib.hid hw
  obtain ⟨i0, hi, hz0, hz1, hz2⟩ := info_parts strInfo
  clear hat hbt ha16 hb16 ht hw
  unfold Yes
  go_enter Tryd.func4, Tryd.ntmps4
  go_wp2_with fail
  refine (known_any w HT.out HW.out).mono ?_
  rintro e w1 ⟨rfl, hb1⟩
  have HB1 := Lib.hid hb1
  have HAT1 := Lib.hid (HAT.out.below hb1)
  have HBT1 := Lib.hid (HBT.out.below hb1)
  clear hb1
  by_cases h6 : la.length ≤ 6
  · by_cases h6b : lb.length ≤ 6
    · go_wp2
      go_loopw [28, 7] (fun i v wr => ∃ (k : Nat) (v0 : Value), k ≤ la.length ∧ i = .int .i64 k ∧ v0 = v ∧ Hid (OwnStrs w1.heap.size wr v0 ((la.take k).map partA)) ∧ Hid (Below w1.heap.size w1 wr)) (fun i _ _ => la.length - (intOf i).toNat)
      case atStart => exact ⟨0, _, Nat.zero_le _, rfl, rfl, Lib.hid (World.ownsRow_nil _ _ _ _), Lib.hid (Below.refl _ _)⟩
      case round =>
        obtain ⟨k, v0, hk, rfl, rfl, HO, HB⟩ := hrel
        by_cases hkl : k < la.length
        · obtain ⟨b, off, rfl, hbl, hc0⟩ := HAT1.out k hkl
          have x0 := (HB.out.cell (p := ⟨b, off + k, none⟩) hbl).trans hc0
          have hn16 := HA16.out la[k] (List.getElem_mem hkl)
          have HTM := Lib.hid (take_map (f := partA) hkl)
          obtain ⟨n, hn⟩ : ∃ n, la[k] = n := ⟨_, rfl⟩
          rw [hn] at x0 hn16 HTM
          clear hn hc0 hbl
          have e2 : IntKind.u16.wrap ((n : Int) / 4) = (n : Int) / 4 := IntWalk.u16_in _ (by omega)
          have cD := fun w => digits_any (n / 4 + 1) (n / 4) w (by omega) (by omega)
          unfold DecPost at cD
          have e4 : ((n / 4 : Nat) : Int) = (n : Int) / 4 := by omega
          rw [e4] at cD
          clear e4
          have zd := dec_small (n / 4) (by omega)
          have HPA : Hid (partA n = preA (n % 4) ++ ⟨(Lib.decDigits (n / 4)).toArray⟩) := Lib.hid rfl
          obtain ⟨d, hd⟩ : ∃ d : ByteArray, (⟨(Lib.decDigits (n / 4)).toArray⟩ : ByteArray) = d := ⟨_, rfl⟩
          simp only [hd] at cD zd HPA
          clear hd
          have CD := Lib.hid cD
          have hlen : ((la.take k).map partA).length = k := by rw [List.length_map, List.length_take]; omega
          obtain ⟨L, hL⟩ : ∃ L, (la.take k).map partA = L := ⟨_, rfl⟩
          rw [hL] at HO HTM hlen
          clear hL cD
          obtain ⟨av0, cv0, rfl, _⟩ := own_form (n := k) HO.out hlen
          have HL1 : Hid (k + 1 ≤ maxLen) := Lib.hid (by unfold maxLen; omega)
          have HL2 : Hid ((k + 1) * 16 ≤ 140737488355328) := Lib.hid (by omega)
          have HLEN := Lib.hid hlen
          rcases (show n % 4 = 0 ∨ n % 4 = 1 ∨ n % 4 = 2 ∨ n % 4 = 3 by omega) with hj | hj | hj | hj
          · have e1 : (n : Int).tmod 4 = 0 := by rw [Int.tmod_eq_emod_of_nonneg (by omega)]; omega
            have HX : Hid (partA n = ⟨#[109, 97, 120, 45, 97, 103, 101, 61]⟩ ++ d) := Lib.hid (by rw [HPA.out, hj]; rfl)
            have q1 : ¬ 9223372036854775807 < 8 + d.size := by omega
            obtain ⟨X, hX⟩ : ∃ X : ByteArray, ⟨#[109, 97, 120, 45, 97, 103, 101, 61]⟩ ++ d = X := ⟨_, rfl⟩
            rw [hX] at HX
            clear hj
            have HO9 : Hid (((wr.alloc (.cells #[.string ⟨#[109, 97, 120, 45, 97, 103, 101, 61]⟩, .string ⟨#[115, 45, 109, 97, 120, 97, 103, 101, 61]⟩, .string ⟨#[109, 105, 110, 45, 102, 114, 101, 115, 104, 61]⟩, .string ⟨#[109, 97, 120, 45, 115, 116, 97, 108, 101, 61]⟩] 9)).alloc (.cells #[.string X] 9)).ownsRow w1.heap.size 9 1 (.slice av0 k cv0) k (strCells L)) := Lib.hid (by
              have := (World.ownsRow.alloc (World.ownsRow.alloc HO.out (.cells #[.string ⟨#[109, 97, 120, 45, 97, 103, 101, 61]⟩, .string ⟨#[115, 45, 109, 97, 120, 97, 103, 101, 61]⟩, .string ⟨#[109, 105, 110, 45, 102, 114, 101, 115, 104, 61]⟩, .string ⟨#[109, 97, 120, 45, 115, 116, 97, 108, 101, 61]⟩] 9)) (.cells #[.string X] 9))
              rwa [HLEN.out] at this)
            have HC9 : Hid (∀ j u, [Value.string X][j]? = some u → ((wr.alloc (.cells #[.string ⟨#[109, 97, 120, 45, 97, 103, 101, 61]⟩, .string ⟨#[115, 45, 109, 97, 120, 97, 103, 101, 61]⟩, .string ⟨#[109, 105, 110, 45, 102, 114, 101, 115, 104, 61]⟩, .string ⟨#[109, 97, 120, 45, 115, 116, 97, 108, 101, 61]⟩] 9)).alloc (.cells #[.string X] 9)).cell? ((⟨wr.heap.size + 1, 0, none⟩ : Addr).add j) = some u) := Lib.hid (by
              have h := new_str (wr.alloc (.cells #[.string ⟨#[109, 97, 120, 45, 97, 103, 101, 61]⟩, .string ⟨#[115, 45, 109, 97, 120, 97, 103, 101, 61]⟩, .string ⟨#[109, 105, 110, 45, 102, 114, 101, 115, 104, 61]⟩, .string ⟨#[109, 97, 120, 45, 115, 116, 97, 108, 101, 61]⟩] 9)) X
              rwa [show (wr.alloc (.cells #[.string ⟨#[109, 97, 120, 45, 97, 103, 101, 61]⟩, .string ⟨#[115, 45, 109, 97, 120, 97, 103, 101, 61]⟩, .string ⟨#[109, 105, 110, 45, 102, 114, 101, 115, 104, 61]⟩, .string ⟨#[109, 97, 120, 45, 115, 116, 97, 108, 101, 61]⟩] 9)).heap.size = wr.heap.size + 1 by simp] at h)
            have HSZ : Hid (((wr.alloc (.cells #[.string ⟨#[109, 97, 120, 45, 97, 103, 101, 61]⟩, .string ⟨#[115, 45, 109, 97, 120, 97, 103, 101, 61]⟩, .string ⟨#[109, 105, 110, 45, 102, 114, 101, 115, 104, 61]⟩, .string ⟨#[109, 97, 120, 45, 115, 116, 97, 108, 101, 61]⟩] 9)).alloc (.cells #[.string X] 9)).heap.size = wr.heap.size + 1 + 1) := Lib.hid (by simp)
            have HSB : Hid (w1.heap.size ≤ ((wr.alloc (.cells #[.string ⟨#[109, 97, 120, 45, 97, 103, 101, 61]⟩, .string ⟨#[115, 45, 109, 97, 120, 97, 103, 101, 61]⟩, .string ⟨#[109, 105, 110, 45, 102, 114, 101, 115, 104, 61]⟩, .string ⟨#[109, 97, 120, 45, 115, 116, 97, 108, 101, 61]⟩] 9)).alloc (.cells #[.string X] 9)).heap.size) := Lib.hid (by have := HB.out.size; simp; omega)
            have HBW := Lib.hid ((HB.out.alloc HB.out.size (.cells #[.string ⟨#[109, 97, 120, 45, 97, 103, 101, 61]⟩, .string ⟨#[115, 45, 109, 97, 120, 97, 103, 101, 61]⟩, .string ⟨#[109, 105, 110, 45, 102, 114, 101, 115, 104, 61]⟩, .string ⟨#[109, 97, 120, 45, 115, 116, 97, 108, 101, 61]⟩] 9)).alloc (by have := HB.out.size; simp; omega) (.cells #[.string X] 9))
            go_wp2
            go_region_law
              (first
                | (go_simp
                   go_at_call 14
                   refine (CD.out _).mono ?_
                   rintro e w9 ⟨rfl, rfl⟩)
                | (refine step_append_lies _ (by rfl) _ _ _ (by rfl) w1.heap.size 9 i0 _ 1 16 Tryd.underlying33 hi hz0 hz1 hz2 rfl (by decide) _ k (strCells L) (by rfl)
                     HO9.out ⟨wr.heap.size + 1, 0, none⟩ 1 1 [.string X] (by rfl) (by rfl) HC9.out (by simp [Value.oneCell']) Nat.one_pos HL1.out HL2.out HSB.out (wr.heap.size + 1 + 1) HSZ.out ?_
                   intro gg cg w4 hown' hgrow _ _))
            all_goals
              have HO4 := Lib.hid (own_snoc (l := L) (by rw [HLEN.out]; exact hown'))
              have HB4 := Lib.hid (HBW.out.drew.grown hgrow HSB.out (fun g h => (World.ownsRow.lt HO9.out g h).1))
              clear hown' hgrow
              go_wp2
              go_roundw
              case rel => exact ⟨k + 1, _, by omega, by go_num, rfl, Lib.hid (by rw [HTM.out, HX.out]; exact HO4.out), HB4⟩
              case measure => simp [intOf]; omega
          · have e1 : (n : Int).tmod 4 = 1 := by rw [Int.tmod_eq_emod_of_nonneg (by omega)]; omega
            have HX : Hid (partA n = ⟨#[115, 45, 109, 97, 120, 97, 103, 101, 61]⟩ ++ d) := Lib.hid (by rw [HPA.out, hj]; rfl)
            have q1 : ¬ 9223372036854775807 < 9 + d.size := by omega
            obtain ⟨X, hX⟩ : ∃ X : ByteArray, ⟨#[115, 45, 109, 97, 120, 97, 103, 101, 61]⟩ ++ d = X := ⟨_, rfl⟩
            rw [hX] at HX
            clear hj
            have HO9 : Hid (((wr.alloc (.cells #[.string ⟨#[109, 97, 120, 45, 97, 103, 101, 61]⟩, .string ⟨#[115, 45, 109, 97, 120, 97, 103, 101, 61]⟩, .string ⟨#[109, 105, 110, 45, 102, 114, 101, 115, 104, 61]⟩, .string ⟨#[109, 97, 120, 45, 115, 116, 97, 108, 101, 61]⟩] 9)).alloc (.cells #[.string X] 9)).ownsRow w1.heap.size 9 1 (.slice av0 k cv0) k (strCells L)) := Lib.hid (by
              have := (World.ownsRow.alloc (World.ownsRow.alloc HO.out (.cells #[.string ⟨#[109, 97, 120, 45, 97, 103, 101, 61]⟩, .string ⟨#[115, 45, 109, 97, 120, 97, 103, 101, 61]⟩, .string ⟨#[109, 105, 110, 45, 102, 114, 101, 115, 104, 61]⟩, .string ⟨#[109, 97, 120, 45, 115, 116, 97, 108, 101, 61]⟩] 9)) (.cells #[.string X] 9))
              rwa [HLEN.out] at this)
            have HC9 : Hid (∀ j u, [Value.string X][j]? = some u → ((wr.alloc (.cells #[.string ⟨#[109, 97, 120, 45, 97, 103, 101, 61]⟩, .string ⟨#[115, 45, 109, 97, 120, 97, 103, 101, 61]⟩, .string ⟨#[109, 105, 110, 45, 102, 114, 101, 115, 104, 61]⟩, .string ⟨#[109, 97, 120, 45, 115, 116, 97, 108, 101, 61]⟩] 9)).alloc (.cells #[.string X] 9)).cell? ((⟨wr.heap.size + 1, 0, none⟩ : Addr).add j) = some u) := Lib.hid (by
              have h := new_str (wr.alloc (.cells #[.string ⟨#[109, 97, 120, 45, 97, 103, 101, 61]⟩, .string ⟨#[115, 45, 109, 97, 120, 97, 103, 101, 61]⟩, .string ⟨#[109, 105, 110, 45, 102, 114, 101, 115, 104, 61]⟩, .string ⟨#[109, 97, 120, 45, 115, 116, 97, 108, 101, 61]⟩] 9)) X
              rwa [show (wr.alloc (.cells #[.string ⟨#[109, 97, 120, 45, 97, 103, 101, 61]⟩, .string ⟨#[115, 45, 109, 97, 120, 97, 103, 101, 61]⟩, .string ⟨#[109, 105, 110, 45, 102, 114, 101, 115, 104, 61]⟩, .string ⟨#[109, 97, 120, 45, 115, 116, 97, 108, 101, 61]⟩] 9)).heap.size = wr.heap.size + 1 by simp] at h)
            have HSZ : Hid (((wr.alloc (.cells #[.string ⟨#[109, 97, 120, 45, 97, 103, 101, 61]⟩, .string ⟨#[115, 45, 109, 97, 120, 97, 103, 101, 61]⟩, .string ⟨#[109, 105, 110, 45, 102, 114, 101, 115, 104, 61]⟩, .string ⟨#[109, 97, 120, 45, 115, 116, 97, 108, 101, 61]⟩] 9)).alloc (.cells #[.string X] 9)).heap.size = wr.heap.size + 1 + 1) := Lib.hid (by simp)
            have HSB : Hid (w1.heap.size ≤ ((wr.alloc (.cells #[.string ⟨#[109, 97, 120, 45, 97, 103, 101, 61]⟩, .string ⟨#[115, 45, 109, 97, 120, 97, 103, 101, 61]⟩, .string ⟨#[109, 105, 110, 45, 102, 114, 101, 115, 104, 61]⟩, .string ⟨#[109, 97, 120, 45, 115, 116, 97, 108, 101, 61]⟩] 9)).alloc (.cells #[.string X] 9)).heap.size) := Lib.hid (by have := HB.out.size; simp; omega)
            have HBW := Lib.hid ((HB.out.alloc HB.out.size (.cells #[.string ⟨#[109, 97, 120, 45, 97, 103, 101, 61]⟩, .string ⟨#[115, 45, 109, 97, 120, 97, 103, 101, 61]⟩, .string ⟨#[109, 105, 110, 45, 102, 114, 101, 115, 104, 61]⟩, .string ⟨#[109, 97, 120, 45, 115, 116, 97, 108, 101, 61]⟩] 9)).alloc (by have := HB.out.size; simp; omega) (.cells #[.string X] 9))
            go_wp2
            go_region_law
              (first
                | (go_simp
                   go_at_call 14
                   refine (CD.out _).mono ?_
                   rintro e w9 ⟨rfl, rfl⟩)
                | (refine step_append_lies _ (by rfl) _ _ _ (by rfl) w1.heap.size 9 i0 _ 1 16 Tryd.underlying33 hi hz0 hz1 hz2 rfl (by decide) _ k (strCells L) (by rfl)
                     HO9.out ⟨wr.heap.size + 1, 0, none⟩ 1 1 [.string X] (by rfl) (by rfl) HC9.out (by simp [Value.oneCell']) Nat.one_pos HL1.out HL2.out HSB.out (wr.heap.size + 1 + 1) HSZ.out ?_
                   intro gg cg w4 hown' hgrow _ _))
            all_goals
              have HO4 := Lib.hid (own_snoc (l := L) (by rw [HLEN.out]; exact hown'))
              have HB4 := Lib.hid (HBW.out.drew.grown hgrow HSB.out (fun g h => (World.ownsRow.lt HO9.out g h).1))
              clear hown' hgrow
              go_wp2
              go_roundw
              case rel => exact ⟨k + 1, _, by omega, by go_num, rfl, Lib.hid (by rw [HTM.out, HX.out]; exact HO4.out), HB4⟩
              case measure => simp [intOf]; omega
          · have e1 : (n : Int).tmod 4 = 2 := by rw [Int.tmod_eq_emod_of_nonneg (by omega)]; omega
            have HX : Hid (partA n = ⟨#[109, 105, 110, 45, 102, 114, 101, 115, 104, 61]⟩ ++ d) := Lib.hid (by rw [HPA.out, hj]; rfl)
            have q1 : ¬ 9223372036854775807 < 10 + d.size := by omega
            obtain ⟨X, hX⟩ : ∃ X : ByteArray, ⟨#[109, 105, 110, 45, 102, 114, 101, 115, 104, 61]⟩ ++ d = X := ⟨_, rfl⟩
            rw [hX] at HX
            clear hj
            have HO9 : Hid (((wr.alloc (.cells #[.string ⟨#[109, 97, 120, 45, 97, 103, 101, 61]⟩, .string ⟨#[115, 45, 109, 97, 120, 97, 103, 101, 61]⟩, .string ⟨#[109, 105, 110, 45, 102, 114, 101, 115, 104, 61]⟩, .string ⟨#[109, 97, 120, 45, 115, 116, 97, 108, 101, 61]⟩] 9)).alloc (.cells #[.string X] 9)).ownsRow w1.heap.size 9 1 (.slice av0 k cv0) k (strCells L)) := Lib.hid (by
              have := (World.ownsRow.alloc (World.ownsRow.alloc HO.out (.cells #[.string ⟨#[109, 97, 120, 45, 97, 103, 101, 61]⟩, .string ⟨#[115, 45, 109, 97, 120, 97, 103, 101, 61]⟩, .string ⟨#[109, 105, 110, 45, 102, 114, 101, 115, 104, 61]⟩, .string ⟨#[109, 97, 120, 45, 115, 116, 97, 108, 101, 61]⟩] 9)) (.cells #[.string X] 9))
              rwa [HLEN.out] at this)
            have HC9 : Hid (∀ j u, [Value.string X][j]? = some u → ((wr.alloc (.cells #[.string ⟨#[109, 97, 120, 45, 97, 103, 101, 61]⟩, .string ⟨#[115, 45, 109, 97, 120, 97, 103, 101, 61]⟩, .string ⟨#[109, 105, 110, 45, 102, 114, 101, 115, 104, 61]⟩, .string ⟨#[109, 97, 120, 45, 115, 116, 97, 108, 101, 61]⟩] 9)).alloc (.cells #[.string X] 9)).cell? ((⟨wr.heap.size + 1, 0, none⟩ : Addr).add j) = some u) := Lib.hid (by
              have h := new_str (wr.alloc (.cells #[.string ⟨#[109, 97, 120, 45, 97, 103, 101, 61]⟩, .string ⟨#[115, 45, 109, 97, 120, 97, 103, 101, 61]⟩, .string ⟨#[109, 105, 110, 45, 102, 114, 101, 115, 104, 61]⟩, .string ⟨#[109, 97, 120, 45, 115, 116, 97, 108, 101, 61]⟩] 9)) X
              rwa [show (wr.alloc (.cells #[.string ⟨#[109, 97, 120, 45, 97, 103, 101, 61]⟩, .string ⟨#[115, 45, 109, 97, 120, 97, 103, 101, 61]⟩, .string ⟨#[109, 105, 110, 45, 102, 114, 101, 115, 104, 61]⟩, .string ⟨#[109, 97, 120, 45, 115, 116, 97, 108, 101, 61]⟩] 9)).heap.size = wr.heap.size + 1 by simp] at h)
            have HSZ : Hid (((wr.alloc (.cells #[.string ⟨#[109, 97, 120, 45, 97, 103, 101, 61]⟩, .string ⟨#[115, 45, 109, 97, 120, 97, 103, 101, 61]⟩, .string ⟨#[109, 105, 110, 45, 102, 114, 101, 115, 104, 61]⟩, .string ⟨#[109, 97, 120, 45, 115, 116, 97, 108, 101, 61]⟩] 9)).alloc (.cells #[.string X] 9)).heap.size = wr.heap.size + 1 + 1) := Lib.hid (by simp)
            have HSB : Hid (w1.heap.size ≤ ((wr.alloc (.cells #[.string ⟨#[109, 97, 120, 45, 97, 103, 101, 61]⟩, .string ⟨#[115, 45, 109, 97, 120, 97, 103, 101, 61]⟩, .string ⟨#[109, 105, 110, 45, 102, 114, 101, 115, 104, 61]⟩, .string ⟨#[109, 97, 120, 45, 115, 116, 97, 108, 101, 61]⟩] 9)).alloc (.cells #[.string X] 9)).heap.size) := Lib.hid (by have := HB.out.size; simp; omega)
            have HBW := Lib.hid ((HB.out.alloc HB.out.size (.cells #[.string ⟨#[109, 97, 120, 45, 97, 103, 101, 61]⟩, .string ⟨#[115, 45, 109, 97, 120, 97, 103, 101, 61]⟩, .string ⟨#[109, 105, 110, 45, 102, 114, 101, 115, 104, 61]⟩, .string ⟨#[109, 97, 120, 45, 115, 116, 97, 108, 101, 61]⟩] 9)).alloc (by have := HB.out.size; simp; omega) (.cells #[.string X] 9))
            go_wp2
            go_region_law
              (first
                | (go_simp
                   go_at_call 14
                   refine (CD.out _).mono ?_
                   rintro e w9 ⟨rfl, rfl⟩)
                | (refine step_append_lies _ (by rfl) _ _ _ (by rfl) w1.heap.size 9 i0 _ 1 16 Tryd.underlying33 hi hz0 hz1 hz2 rfl (by decide) _ k (strCells L) (by rfl)
                     HO9.out ⟨wr.heap.size + 1, 0, none⟩ 1 1 [.string X] (by rfl) (by rfl) HC9.out (by simp [Value.oneCell']) Nat.one_pos HL1.out HL2.out HSB.out (wr.heap.size + 1 + 1) HSZ.out ?_
                   intro gg cg w4 hown' hgrow _ _))
            all_goals
              have HO4 := Lib.hid (own_snoc (l := L) (by rw [HLEN.out]; exact hown'))
              have HB4 := Lib.hid (HBW.out.drew.grown hgrow HSB.out (fun g h => (World.ownsRow.lt HO9.out g h).1))
              clear hown' hgrow
              go_wp2
              go_roundw
              case rel => exact ⟨k + 1, _, by omega, by go_num, rfl, Lib.hid (by rw [HTM.out, HX.out]; exact HO4.out), HB4⟩
              case measure => simp [intOf]; omega
          · have e1 : (n : Int).tmod 4 = 3 := by rw [Int.tmod_eq_emod_of_nonneg (by omega)]; omega
            have HX : Hid (partA n = ⟨#[109, 97, 120, 45, 115, 116, 97, 108, 101, 61]⟩ ++ d) := Lib.hid (by rw [HPA.out, hj]; rfl)
            have q1 : ¬ 9223372036854775807 < 10 + d.size := by omega
            obtain ⟨X, hX⟩ : ∃ X : ByteArray, ⟨#[109, 97, 120, 45, 115, 116, 97, 108, 101, 61]⟩ ++ d = X := ⟨_, rfl⟩
            rw [hX] at HX
            clear hj
            have HO9 : Hid (((wr.alloc (.cells #[.string ⟨#[109, 97, 120, 45, 97, 103, 101, 61]⟩, .string ⟨#[115, 45, 109, 97, 120, 97, 103, 101, 61]⟩, .string ⟨#[109, 105, 110, 45, 102, 114, 101, 115, 104, 61]⟩, .string ⟨#[109, 97, 120, 45, 115, 116, 97, 108, 101, 61]⟩] 9)).alloc (.cells #[.string X] 9)).ownsRow w1.heap.size 9 1 (.slice av0 k cv0) k (strCells L)) := Lib.hid (by
              have := (World.ownsRow.alloc (World.ownsRow.alloc HO.out (.cells #[.string ⟨#[109, 97, 120, 45, 97, 103, 101, 61]⟩, .string ⟨#[115, 45, 109, 97, 120, 97, 103, 101, 61]⟩, .string ⟨#[109, 105, 110, 45, 102, 114, 101, 115, 104, 61]⟩, .string ⟨#[109, 97, 120, 45, 115, 116, 97, 108, 101, 61]⟩] 9)) (.cells #[.string X] 9))
              rwa [HLEN.out] at this)
            have HC9 : Hid (∀ j u, [Value.string X][j]? = some u → ((wr.alloc (.cells #[.string ⟨#[109, 97, 120, 45, 97, 103, 101, 61]⟩, .string ⟨#[115, 45, 109, 97, 120, 97, 103, 101, 61]⟩, .string ⟨#[109, 105, 110, 45, 102, 114, 101, 115, 104, 61]⟩, .string ⟨#[109, 97, 120, 45, 115, 116, 97, 108, 101, 61]⟩] 9)).alloc (.cells #[.string X] 9)).cell? ((⟨wr.heap.size + 1, 0, none⟩ : Addr).add j) = some u) := Lib.hid (by
              have h := new_str (wr.alloc (.cells #[.string ⟨#[109, 97, 120, 45, 97, 103, 101, 61]⟩, .string ⟨#[115, 45, 109, 97, 120, 97, 103, 101, 61]⟩, .string ⟨#[109, 105, 110, 45, 102, 114, 101, 115, 104, 61]⟩, .string ⟨#[109, 97, 120, 45, 115, 116, 97, 108, 101, 61]⟩] 9)) X
              rwa [show (wr.alloc (.cells #[.string ⟨#[109, 97, 120, 45, 97, 103, 101, 61]⟩, .string ⟨#[115, 45, 109, 97, 120, 97, 103, 101, 61]⟩, .string ⟨#[109, 105, 110, 45, 102, 114, 101, 115, 104, 61]⟩, .string ⟨#[109, 97, 120, 45, 115, 116, 97, 108, 101, 61]⟩] 9)).heap.size = wr.heap.size + 1 by simp] at h)
            have HSZ : Hid (((wr.alloc (.cells #[.string ⟨#[109, 97, 120, 45, 97, 103, 101, 61]⟩, .string ⟨#[115, 45, 109, 97, 120, 97, 103, 101, 61]⟩, .string ⟨#[109, 105, 110, 45, 102, 114, 101, 115, 104, 61]⟩, .string ⟨#[109, 97, 120, 45, 115, 116, 97, 108, 101, 61]⟩] 9)).alloc (.cells #[.string X] 9)).heap.size = wr.heap.size + 1 + 1) := Lib.hid (by simp)
            have HSB : Hid (w1.heap.size ≤ ((wr.alloc (.cells #[.string ⟨#[109, 97, 120, 45, 97, 103, 101, 61]⟩, .string ⟨#[115, 45, 109, 97, 120, 97, 103, 101, 61]⟩, .string ⟨#[109, 105, 110, 45, 102, 114, 101, 115, 104, 61]⟩, .string ⟨#[109, 97, 120, 45, 115, 116, 97, 108, 101, 61]⟩] 9)).alloc (.cells #[.string X] 9)).heap.size) := Lib.hid (by have := HB.out.size; simp; omega)
            have HBW := Lib.hid ((HB.out.alloc HB.out.size (.cells #[.string ⟨#[109, 97, 120, 45, 97, 103, 101, 61]⟩, .string ⟨#[115, 45, 109, 97, 120, 97, 103, 101, 61]⟩, .string ⟨#[109, 105, 110, 45, 102, 114, 101, 115, 104, 61]⟩, .string ⟨#[109, 97, 120, 45, 115, 116, 97, 108, 101, 61]⟩] 9)).alloc (by have := HB.out.size; simp; omega) (.cells #[.string X] 9))
            go_wp2
            go_region_law
              (first
                | (go_simp
                   go_at_call 14
                   refine (CD.out _).mono ?_
                   rintro e w9 ⟨rfl, rfl⟩)
                | (refine step_append_lies _ (by rfl) _ _ _ (by rfl) w1.heap.size 9 i0 _ 1 16 Tryd.underlying33 hi hz0 hz1 hz2 rfl (by decide) _ k (strCells L) (by rfl)
                     HO9.out ⟨wr.heap.size + 1, 0, none⟩ 1 1 [.string X] (by rfl) (by rfl) HC9.out (by simp [Value.oneCell']) Nat.one_pos HL1.out HL2.out HSB.out (wr.heap.size + 1 + 1) HSZ.out ?_
                   intro gg cg w4 hown' hgrow _ _))
            all_goals
              have HO4 := Lib.hid (own_snoc (l := L) (by rw [HLEN.out]; exact hown'))
              have HB4 := Lib.hid (HBW.out.drew.grown hgrow HSB.out (fun g h => (World.ownsRow.lt HO9.out g h).1))
              clear hown' hgrow
              go_wp2
              go_roundw
              case rel => exact ⟨k + 1, _, by omega, by go_num, rfl, Lib.hid (by rw [HTM.out, HX.out]; exact HO4.out), HB4⟩
              case measure => simp [intOf]; omega
        · have HA : Hid ((la.take k).map partA = la.map partA) := Lib.hid (by rw [List.take_of_length_le (by omega)])
          have HO1 : Hid (OwnStrs w1.heap.size wr v0 (la.map partA)) := Lib.hid (by rw [← HA.out]; exact HO.out)
          have HB1' := HB
          clear HO HB HA
          go_wp2
          go_loopw [47, 7] (fun i v wr => ∃ (k : Nat) (v0 : Value), k ≤ lb.length ∧ i = .int .i64 k ∧ v0 = v ∧ Hid (OwnStrs w1.heap.size wr v0 (la.map partA ++ (lb.take k).map partB)) ∧ Hid (Below w1.heap.size w1 wr)) (fun i _ _ => lb.length - (intOf i).toNat)
          case atStart => exact ⟨0, _, Nat.zero_le _, rfl, rfl, Lib.hid (by simpa using HO1.out), HB1'⟩
          case round =>
            obtain ⟨k2, v2, hk2, rfl, rfl, HO, HB⟩ := hrel
            by_cases hkl : k2 < lb.length
            · obtain ⟨b, off, rfl, hbl, hc0⟩ := HBT1.out k2 hkl
              have x0 := (HB.out.cell (p := ⟨b, off + k2, none⟩) hbl).trans hc0
              have HTM := Lib.hid (take_map (f := partB) hkl)
              obtain ⟨n, hn⟩ : ∃ n, lb[k2] = n := ⟨_, rfl⟩
              rw [hn] at x0 HTM
              clear hn hc0 hbl
              have hlen : (la.map partA ++ (lb.take k2).map partB).length = la.length + k2 := by rw [List.length_append, List.length_map, List.length_map, List.length_take]; omega
              have HTM2 : Hid (la.map partA ++ (lb.take (k2 + 1)).map partB = (la.map partA ++ (lb.take k2).map partB) ++ [partB n]) := Lib.hid (by rw [HTM.out, List.append_assoc])
              obtain ⟨L, hL⟩ : ∃ L, la.map partA ++ (lb.take k2).map partB = L := ⟨_, rfl⟩
              rw [hL] at HO HTM2 hlen
              clear hL
              have hln : L.length + 1 ≤ 1000000000000 := by omega
              rcases (show n % 6 = 0 ∨ n % 6 = 1 ∨ n % 6 = 2 ∨ n % 6 = 3 ∨ n % 6 = 4 ∨ n % 6 = 5 by omega) with hj | hj | hj | hj | hj | hj
              · have e1 : (n : Int).tmod 6 = 0 := by rw [Int.tmod_eq_emod_of_nonneg (by omega)]; omega
                have HX : Hid (partB n = ⟨#[110, 111, 45, 115, 116, 111, 114, 101]⟩) := Lib.hid (by unfold partB; rw [hj] <;> rfl)
                clear hj
                have HS : Hid (StrsIn (wr.heap.size + 1 + 1) ((wr.alloc (.cells #[.string ⟨#[110, 111, 45, 115, 116, 111, 114, 101]⟩, .string ⟨#[78, 111, 45, 67, 97, 99, 104, 101]⟩, .string ⟨#[112, 114, 105, 118, 97, 116, 101, 61, 34, 120, 44, 32, 121, 34]⟩, .string ⟨#[112, 117, 98, 108, 105, 99]⟩, .string ⟨#[109, 117, 115, 116, 45, 114, 101, 118, 97, 108, 105, 100, 97, 116, 101]⟩, .string ⟨#[111, 116, 104, 101, 114, 61, 49]⟩] 9)).alloc (.cells #[.string ⟨#[110, 111, 45, 115, 116, 111, 114, 101]⟩] 9)) (some ⟨wr.heap.size + 1, 0, none⟩) [⟨#[110, 111, 45, 115, 116, 111, 114, 101]⟩]) := Lib.hid (by
                  have h := one_str (wr.alloc (.cells #[.string ⟨#[110, 111, 45, 115, 116, 111, 114, 101]⟩, .string ⟨#[78, 111, 45, 67, 97, 99, 104, 101]⟩, .string ⟨#[112, 114, 105, 118, 97, 116, 101, 61, 34, 120, 44, 32, 121, 34]⟩, .string ⟨#[112, 117, 98, 108, 105, 99]⟩, .string ⟨#[109, 117, 115, 116, 45, 114, 101, 118, 97, 108, 105, 100, 97, 116, 101]⟩, .string ⟨#[111, 116, 104, 101, 114, 61, 49]⟩] 9)) ⟨#[110, 111, 45, 115, 116, 111, 114, 101]⟩
                  rwa [show (wr.alloc (.cells #[.string ⟨#[110, 111, 45, 115, 116, 111, 114, 101]⟩, .string ⟨#[78, 111, 45, 67, 97, 99, 104, 101]⟩, .string ⟨#[112, 114, 105, 118, 97, 116, 101, 61, 34, 120, 44, 32, 121, 34]⟩, .string ⟨#[112, 117, 98, 108, 105, 99]⟩, .string ⟨#[109, 117, 115, 116, 45, 114, 101, 118, 97, 108, 105, 100, 97, 116, 101]⟩, .string ⟨#[111, 116, 104, 101, 114, 61, 49]⟩] 9)).heap.size = wr.heap.size + 1 by simp] at h)
                have HSB : Hid (w1.heap.size ≤ ((wr.alloc (.cells #[.string ⟨#[110, 111, 45, 115, 116, 111, 114, 101]⟩, .string ⟨#[78, 111, 45, 67, 97, 99, 104, 101]⟩, .string ⟨#[112, 114, 105, 118, 97, 116, 101, 61, 34, 120, 44, 32, 121, 34]⟩, .string ⟨#[112, 117, 98, 108, 105, 99]⟩, .string ⟨#[109, 117, 115, 116, 45, 114, 101, 118, 97, 108, 105, 100, 97, 116, 101]⟩, .string ⟨#[111, 116, 104, 101, 114, 61, 49]⟩] 9)).alloc (.cells #[.string ⟨#[110, 111, 45, 115, 116, 111, 114, 101]⟩] 9)).heap.size) := Lib.hid (by have := HB.out.size; simp; omega)
                have HBW := Lib.hid ((HB.out.alloc HB.out.size (.cells #[.string ⟨#[110, 111, 45, 115, 116, 111, 114, 101]⟩, .string ⟨#[78, 111, 45, 67, 97, 99, 104, 101]⟩, .string ⟨#[112, 114, 105, 118, 97, 116, 101, 61, 34, 120, 44, 32, 121, 34]⟩, .string ⟨#[112, 117, 98, 108, 105, 99]⟩, .string ⟨#[109, 117, 115, 116, 45, 114, 101, 118, 97, 108, 105, 100, 97, 116, 101]⟩, .string ⟨#[111, 116, 104, 101, 114, 61, 49]⟩] 9)).alloc (by have := HB.out.size; simp; omega) (.cells #[.string ⟨#[110, 111, 45, 115, 116, 111, 114, 101]⟩] 9))
                have HOW : Hid (OwnStrs w1.heap.size ((wr.alloc (.cells #[.string ⟨#[110, 111, 45, 115, 116, 111, 114, 101]⟩, .string ⟨#[78, 111, 45, 67, 97, 99, 104, 101]⟩, .string ⟨#[112, 114, 105, 118, 97, 116, 101, 61, 34, 120, 44, 32, 121, 34]⟩, .string ⟨#[112, 117, 98, 108, 105, 99]⟩, .string ⟨#[109, 117, 115, 116, 45, 114, 101, 118, 97, 108, 105, 100, 97, 116, 101]⟩, .string ⟨#[111, 116, 104, 101, 114, 61, 49]⟩] 9)).alloc (.cells #[.string ⟨#[110, 111, 45, 115, 116, 111, 114, 101]⟩] 9)) v2 L) := Lib.hid (World.ownsRow.alloc (World.ownsRow.alloc HO.out _) _)
                go_wp2_with ((with_reducible show wpList _ _ _ (⟨some 58, _, _, _, _, _⟩ :: _) _ _); refine wpList_append_strs rfl _ _ rfl w1.heap.size (wr.heap.size + 1 + 1) v2 L rfl HOW.out HSB.out (some ⟨wr.heap.size + 1, 0, none⟩) 1 1 [⟨#[110, 111, 45, 115, 116, 111, 114, 101]⟩] rfl rfl HS.out (fun e => by cases e) hln ?_; intro v4 w4 ho hg; have HO4 := Lib.hid ho; have HB4 := Lib.hid (HBW.out.grown hg HSB.out (fun g h => (World.ownsRow.lt HOW.out g h).1)); clear ho hg)
                go_roundw
                case rel => exact ⟨k2 + 1, _, by omega, by go_num, rfl, Lib.hid (by rw [HTM2.out, HX.out]; exact HO4.out), HB4⟩
                case measure => simp [intOf]; omega
              · have e1 : (n : Int).tmod 6 = 1 := by rw [Int.tmod_eq_emod_of_nonneg (by omega)]; omega
                have HX : Hid (partB n = ⟨#[78, 111, 45, 67, 97, 99, 104, 101]⟩) := Lib.hid (by unfold partB; rw [hj] <;> rfl)
                clear hj
                have HS : Hid (StrsIn (wr.heap.size + 1 + 1) ((wr.alloc (.cells #[.string ⟨#[110, 111, 45, 115, 116, 111, 114, 101]⟩, .string ⟨#[78, 111, 45, 67, 97, 99, 104, 101]⟩, .string ⟨#[112, 114, 105, 118, 97, 116, 101, 61, 34, 120, 44, 32, 121, 34]⟩, .string ⟨#[112, 117, 98, 108, 105, 99]⟩, .string ⟨#[109, 117, 115, 116, 45, 114, 101, 118, 97, 108, 105, 100, 97, 116, 101]⟩, .string ⟨#[111, 116, 104, 101, 114, 61, 49]⟩] 9)).alloc (.cells #[.string ⟨#[78, 111, 45, 67, 97, 99, 104, 101]⟩] 9)) (some ⟨wr.heap.size + 1, 0, none⟩) [⟨#[78, 111, 45, 67, 97, 99, 104, 101]⟩]) := Lib.hid (by
                  have h := one_str (wr.alloc (.cells #[.string ⟨#[110, 111, 45, 115, 116, 111, 114, 101]⟩, .string ⟨#[78, 111, 45, 67, 97, 99, 104, 101]⟩, .string ⟨#[112, 114, 105, 118, 97, 116, 101, 61, 34, 120, 44, 32, 121, 34]⟩, .string ⟨#[112, 117, 98, 108, 105, 99]⟩, .string ⟨#[109, 117, 115, 116, 45, 114, 101, 118, 97, 108, 105, 100, 97, 116, 101]⟩, .string ⟨#[111, 116, 104, 101, 114, 61, 49]⟩] 9)) ⟨#[78, 111, 45, 67, 97, 99, 104, 101]⟩
                  rwa [show (wr.alloc (.cells #[.string ⟨#[110, 111, 45, 115, 116, 111, 114, 101]⟩, .string ⟨#[78, 111, 45, 67, 97, 99, 104, 101]⟩, .string ⟨#[112, 114, 105, 118, 97, 116, 101, 61, 34, 120, 44, 32, 121, 34]⟩, .string ⟨#[112, 117, 98, 108, 105, 99]⟩, .string ⟨#[109, 117, 115, 116, 45, 114, 101, 118, 97, 108, 105, 100, 97, 116, 101]⟩, .string ⟨#[111, 116, 104, 101, 114, 61, 49]⟩] 9)).heap.size = wr.heap.size + 1 by simp] at h)
                have HSB : Hid (w1.heap.size ≤ ((wr.alloc (.cells #[.string ⟨#[110, 111, 45, 115, 116, 111, 114, 101]⟩, .string ⟨#[78, 111, 45, 67, 97, 99, 104, 101]⟩, .string ⟨#[112, 114, 105, 118, 97, 116, 101, 61, 34, 120, 44, 32, 121, 34]⟩, .string ⟨#[112, 117, 98, 108, 105, 99]⟩, .string ⟨#[109, 117, 115, 116, 45, 114, 101, 118, 97, 108, 105, 100, 97, 116, 101]⟩, .string ⟨#[111, 116, 104, 101, 114, 61, 49]⟩] 9)).alloc (.cells #[.string ⟨#[78, 111, 45, 67, 97, 99, 104, 101]⟩] 9)).heap.size) := Lib.hid (by have := HB.out.size; simp; omega)
                have HBW := Lib.hid ((HB.out.alloc HB.out.size (.cells #[.string ⟨#[110, 111, 45, 115, 116, 111, 114, 101]⟩, .string ⟨#[78, 111, 45, 67, 97, 99, 104, 101]⟩, .string ⟨#[112, 114, 105, 118, 97, 116, 101, 61, 34, 120, 44, 32, 121, 34]⟩, .string ⟨#[112, 117, 98, 108, 105, 99]⟩, .string ⟨#[109, 117, 115, 116, 45, 114, 101, 118, 97, 108, 105, 100, 97, 116, 101]⟩, .string ⟨#[111, 116, 104, 101, 114, 61, 49]⟩] 9)).alloc (by have := HB.out.size; simp; omega) (.cells #[.string ⟨#[78, 111, 45, 67, 97, 99, 104, 101]⟩] 9))
                have HOW : Hid (OwnStrs w1.heap.size ((wr.alloc (.cells #[.string ⟨#[110, 111, 45, 115, 116, 111, 114, 101]⟩, .string ⟨#[78, 111, 45, 67, 97, 99, 104, 101]⟩, .string ⟨#[112, 114, 105, 118, 97, 116, 101, 61, 34, 120, 44, 32, 121, 34]⟩, .string ⟨#[112, 117, 98, 108, 105, 99]⟩, .string ⟨#[109, 117, 115, 116, 45, 114, 101, 118, 97, 108, 105, 100, 97, 116, 101]⟩, .string ⟨#[111, 116, 104, 101, 114, 61, 49]⟩] 9)).alloc (.cells #[.string ⟨#[78, 111, 45, 67, 97, 99, 104, 101]⟩] 9)) v2 L) := Lib.hid (World.ownsRow.alloc (World.ownsRow.alloc HO.out _) _)
                go_wp2_with ((with_reducible show wpList _ _ _ (⟨some 58, _, _, _, _, _⟩ :: _) _ _); refine wpList_append_strs rfl _ _ rfl w1.heap.size (wr.heap.size + 1 + 1) v2 L rfl HOW.out HSB.out (some ⟨wr.heap.size + 1, 0, none⟩) 1 1 [⟨#[78, 111, 45, 67, 97, 99, 104, 101]⟩] rfl rfl HS.out (fun e => by cases e) hln ?_; intro v4 w4 ho hg; have HO4 := Lib.hid ho; have HB4 := Lib.hid (HBW.out.grown hg HSB.out (fun g h => (World.ownsRow.lt HOW.out g h).1)); clear ho hg)
                go_roundw
                case rel => exact ⟨k2 + 1, _, by omega, by go_num, rfl, Lib.hid (by rw [HTM2.out, HX.out]; exact HO4.out), HB4⟩
                case measure => simp [intOf]; omega
              · have e1 : (n : Int).tmod 6 = 2 := by rw [Int.tmod_eq_emod_of_nonneg (by omega)]; omega
                have HX : Hid (partB n = ⟨#[112, 114, 105, 118, 97, 116, 101, 61, 34, 120, 44, 32, 121, 34]⟩) := Lib.hid (by unfold partB; rw [hj] <;> rfl)
                clear hj
                have HS : Hid (StrsIn (wr.heap.size + 1 + 1) ((wr.alloc (.cells #[.string ⟨#[110, 111, 45, 115, 116, 111, 114, 101]⟩, .string ⟨#[78, 111, 45, 67, 97, 99, 104, 101]⟩, .string ⟨#[112, 114, 105, 118, 97, 116, 101, 61, 34, 120, 44, 32, 121, 34]⟩, .string ⟨#[112, 117, 98, 108, 105, 99]⟩, .string ⟨#[109, 117, 115, 116, 45, 114, 101, 118, 97, 108, 105, 100, 97, 116, 101]⟩, .string ⟨#[111, 116, 104, 101, 114, 61, 49]⟩] 9)).alloc (.cells #[.string ⟨#[112, 114, 105, 118, 97, 116, 101, 61, 34, 120, 44, 32, 121, 34]⟩] 9)) (some ⟨wr.heap.size + 1, 0, none⟩) [⟨#[112, 114, 105, 118, 97, 116, 101, 61, 34, 120, 44, 32, 121, 34]⟩]) := Lib.hid (by
                  have h := one_str (wr.alloc (.cells #[.string ⟨#[110, 111, 45, 115, 116, 111, 114, 101]⟩, .string ⟨#[78, 111, 45, 67, 97, 99, 104, 101]⟩, .string ⟨#[112, 114, 105, 118, 97, 116, 101, 61, 34, 120, 44, 32, 121, 34]⟩, .string ⟨#[112, 117, 98, 108, 105, 99]⟩, .string ⟨#[109, 117, 115, 116, 45, 114, 101, 118, 97, 108, 105, 100, 97, 116, 101]⟩, .string ⟨#[111, 116, 104, 101, 114, 61, 49]⟩] 9)) ⟨#[112, 114, 105, 118, 97, 116, 101, 61, 34, 120, 44, 32, 121, 34]⟩
                  rwa [show (wr.alloc (.cells #[.string ⟨#[110, 111, 45, 115, 116, 111, 114, 101]⟩, .string ⟨#[78, 111, 45, 67, 97, 99, 104, 101]⟩, .string ⟨#[112, 114, 105, 118, 97, 116, 101, 61, 34, 120, 44, 32, 121, 34]⟩, .string ⟨#[112, 117, 98, 108, 105, 99]⟩, .string ⟨#[109, 117, 115, 116, 45, 114, 101, 118, 97, 108, 105, 100, 97, 116, 101]⟩, .string ⟨#[111, 116, 104, 101, 114, 61, 49]⟩] 9)).heap.size = wr.heap.size + 1 by simp] at h)
                have HSB : Hid (w1.heap.size ≤ ((wr.alloc (.cells #[.string ⟨#[110, 111, 45, 115, 116, 111, 114, 101]⟩, .string ⟨#[78, 111, 45, 67, 97, 99, 104, 101]⟩, .string ⟨#[112, 114, 105, 118, 97, 116, 101, 61, 34, 120, 44, 32, 121, 34]⟩, .string ⟨#[112, 117, 98, 108, 105, 99]⟩, .string ⟨#[109, 117, 115, 116, 45, 114, 101, 118, 97, 108, 105, 100, 97, 116, 101]⟩, .string ⟨#[111, 116, 104, 101, 114, 61, 49]⟩] 9)).alloc (.cells #[.string ⟨#[112, 114, 105, 118, 97, 116, 101, 61, 34, 120, 44, 32, 121, 34]⟩] 9)).heap.size) := Lib.hid (by have := HB.out.size; simp; omega)
                have HBW := Lib.hid ((HB.out.alloc HB.out.size (.cells #[.string ⟨#[110, 111, 45, 115, 116, 111, 114, 101]⟩, .string ⟨#[78, 111, 45, 67, 97, 99, 104, 101]⟩, .string ⟨#[112, 114, 105, 118, 97, 116, 101, 61, 34, 120, 44, 32, 121, 34]⟩, .string ⟨#[112, 117, 98, 108, 105, 99]⟩, .string ⟨#[109, 117, 115, 116, 45, 114, 101, 118, 97, 108, 105, 100, 97, 116, 101]⟩, .string ⟨#[111, 116, 104, 101, 114, 61, 49]⟩] 9)).alloc (by have := HB.out.size; simp; omega) (.cells #[.string ⟨#[112, 114, 105, 118, 97, 116, 101, 61, 34, 120, 44, 32, 121, 34]⟩] 9))
                have HOW : Hid (OwnStrs w1.heap.size ((wr.alloc (.cells #[.string ⟨#[110, 111, 45, 115, 116, 111, 114, 101]⟩, .string ⟨#[78, 111, 45, 67, 97, 99, 104, 101]⟩, .string ⟨#[112, 114, 105, 118, 97, 116, 101, 61, 34, 120, 44, 32, 121, 34]⟩, .string ⟨#[112, 117, 98, 108, 105, 99]⟩, .string ⟨#[109, 117, 115, 116, 45, 114, 101, 118, 97, 108, 105, 100, 97, 116, 101]⟩, .string ⟨#[111, 116, 104, 101, 114, 61, 49]⟩] 9)).alloc (.cells #[.string ⟨#[112, 114, 105, 118, 97, 116, 101, 61, 34, 120, 44, 32, 121, 34]⟩] 9)) v2 L) := Lib.hid (World.ownsRow.alloc (World.ownsRow.alloc HO.out _) _)
                go_wp2_with ((with_reducible show wpList _ _ _ (⟨some 58, _, _, _, _, _⟩ :: _) _ _); refine wpList_append_strs rfl _ _ rfl w1.heap.size (wr.heap.size + 1 + 1) v2 L rfl HOW.out HSB.out (some ⟨wr.heap.size + 1, 0, none⟩) 1 1 [⟨#[112, 114, 105, 118, 97, 116, 101, 61, 34, 120, 44, 32, 121, 34]⟩] rfl rfl HS.out (fun e => by cases e) hln ?_; intro v4 w4 ho hg; have HO4 := Lib.hid ho; have HB4 := Lib.hid (HBW.out.grown hg HSB.out (fun g h => (World.ownsRow.lt HOW.out g h).1)); clear ho hg)
                go_roundw
                case rel => exact ⟨k2 + 1, _, by omega, by go_num, rfl, Lib.hid (by rw [HTM2.out, HX.out]; exact HO4.out), HB4⟩
                case measure => simp [intOf]; omega
              · have e1 : (n : Int).tmod 6 = 3 := by rw [Int.tmod_eq_emod_of_nonneg (by omega)]; omega
                have HX : Hid (partB n = ⟨#[112, 117, 98, 108, 105, 99]⟩) := Lib.hid (by unfold partB; rw [hj] <;> rfl)
                clear hj
                have HS : Hid (StrsIn (wr.heap.size + 1 + 1) ((wr.alloc (.cells #[.string ⟨#[110, 111, 45, 115, 116, 111, 114, 101]⟩, .string ⟨#[78, 111, 45, 67, 97, 99, 104, 101]⟩, .string ⟨#[112, 114, 105, 118, 97, 116, 101, 61, 34, 120, 44, 32, 121, 34]⟩, .string ⟨#[112, 117, 98, 108, 105, 99]⟩, .string ⟨#[109, 117, 115, 116, 45, 114, 101, 118, 97, 108, 105, 100, 97, 116, 101]⟩, .string ⟨#[111, 116, 104, 101, 114, 61, 49]⟩] 9)).alloc (.cells #[.string ⟨#[112, 117, 98, 108, 105, 99]⟩] 9)) (some ⟨wr.heap.size + 1, 0, none⟩) [⟨#[112, 117, 98, 108, 105, 99]⟩]) := Lib.hid (by
                  have h := one_str (wr.alloc (.cells #[.string ⟨#[110, 111, 45, 115, 116, 111, 114, 101]⟩, .string ⟨#[78, 111, 45, 67, 97, 99, 104, 101]⟩, .string ⟨#[112, 114, 105, 118, 97, 116, 101, 61, 34, 120, 44, 32, 121, 34]⟩, .string ⟨#[112, 117, 98, 108, 105, 99]⟩, .string ⟨#[109, 117, 115, 116, 45, 114, 101, 118, 97, 108, 105, 100, 97, 116, 101]⟩, .string ⟨#[111, 116, 104, 101, 114, 61, 49]⟩] 9)) ⟨#[112, 117, 98, 108, 105, 99]⟩
                  rwa [show (wr.alloc (.cells #[.string ⟨#[110, 111, 45, 115, 116, 111, 114, 101]⟩, .string ⟨#[78, 111, 45, 67, 97, 99, 104, 101]⟩, .string ⟨#[112, 114, 105, 118, 97, 116, 101, 61, 34, 120, 44, 32, 121, 34]⟩, .string ⟨#[112, 117, 98, 108, 105, 99]⟩, .string ⟨#[109, 117, 115, 116, 45, 114, 101, 118, 97, 108, 105, 100, 97, 116, 101]⟩, .string ⟨#[111, 116, 104, 101, 114, 61, 49]⟩] 9)).heap.size = wr.heap.size + 1 by simp] at h)
                have HSB : Hid (w1.heap.size ≤ ((wr.alloc (.cells #[.string ⟨#[110, 111, 45, 115, 116, 111, 114, 101]⟩, .string ⟨#[78, 111, 45, 67, 97, 99, 104, 101]⟩, .string ⟨#[112, 114, 105, 118, 97, 116, 101, 61, 34, 120, 44, 32, 121, 34]⟩, .string ⟨#[112, 117, 98, 108, 105, 99]⟩, .string ⟨#[109, 117, 115, 116, 45, 114, 101, 118, 97, 108, 105, 100, 97, 116, 101]⟩, .string ⟨#[111, 116, 104, 101, 114, 61, 49]⟩] 9)).alloc (.cells #[.string ⟨#[112, 117, 98, 108, 105, 99]⟩] 9)).heap.size) := Lib.hid (by have := HB.out.size; simp; omega)
                have HBW := Lib.hid ((HB.out.alloc HB.out.size (.cells #[.string ⟨#[110, 111, 45, 115, 116, 111, 114, 101]⟩, .string ⟨#[78, 111, 45, 67, 97, 99, 104, 101]⟩, .string ⟨#[112, 114, 105, 118, 97, 116, 101, 61, 34, 120, 44, 32, 121, 34]⟩, .string ⟨#[112, 117, 98, 108, 105, 99]⟩, .string ⟨#[109, 117, 115, 116, 45, 114, 101, 118, 97, 108, 105, 100, 97, 116, 101]⟩, .string ⟨#[111, 116, 104, 101, 114, 61, 49]⟩] 9)).alloc (by have := HB.out.size; simp; omega) (.cells #[.string ⟨#[112, 117, 98, 108, 105, 99]⟩] 9))
                have HOW : Hid (OwnStrs w1.heap.size ((wr.alloc (.cells #[.string ⟨#[110, 111, 45, 115, 116, 111, 114, 101]⟩, .string ⟨#[78, 111, 45, 67, 97, 99, 104, 101]⟩, .string ⟨#[112, 114, 105, 118, 97, 116, 101, 61, 34, 120, 44, 32, 121, 34]⟩, .string ⟨#[112, 117, 98, 108, 105, 99]⟩, .string ⟨#[109, 117, 115, 116, 45, 114, 101, 118, 97, 108, 105, 100, 97, 116, 101]⟩, .string ⟨#[111, 116, 104, 101, 114, 61, 49]⟩] 9)).alloc (.cells #[.string ⟨#[112, 117, 98, 108, 105, 99]⟩] 9)) v2 L) := Lib.hid (World.ownsRow.alloc (World.ownsRow.alloc HO.out _) _)
                go_wp2_with ((with_reducible show wpList _ _ _ (⟨some 58, _, _, _, _, _⟩ :: _) _ _); refine wpList_append_strs rfl _ _ rfl w1.heap.size (wr.heap.size + 1 + 1) v2 L rfl HOW.out HSB.out (some ⟨wr.heap.size + 1, 0, none⟩) 1 1 [⟨#[112, 117, 98, 108, 105, 99]⟩] rfl rfl HS.out (fun e => by cases e) hln ?_; intro v4 w4 ho hg; have HO4 := Lib.hid ho; have HB4 := Lib.hid (HBW.out.grown hg HSB.out (fun g h => (World.ownsRow.lt HOW.out g h).1)); clear ho hg)
                go_roundw
                case rel => exact ⟨k2 + 1, _, by omega, by go_num, rfl, Lib.hid (by rw [HTM2.out, HX.out]; exact HO4.out), HB4⟩
                case measure => simp [intOf]; omega
              · have e1 : (n : Int).tmod 6 = 4 := by rw [Int.tmod_eq_emod_of_nonneg (by omega)]; omega
                have HX : Hid (partB n = ⟨#[109, 117, 115, 116, 45, 114, 101, 118, 97, 108, 105, 100, 97, 116, 101]⟩) := Lib.hid (by unfold partB; rw [hj] <;> rfl)
                clear hj
                have HS : Hid (StrsIn (wr.heap.size + 1 + 1) ((wr.alloc (.cells #[.string ⟨#[110, 111, 45, 115, 116, 111, 114, 101]⟩, .string ⟨#[78, 111, 45, 67, 97, 99, 104, 101]⟩, .string ⟨#[112, 114, 105, 118, 97, 116, 101, 61, 34, 120, 44, 32, 121, 34]⟩, .string ⟨#[112, 117, 98, 108, 105, 99]⟩, .string ⟨#[109, 117, 115, 116, 45, 114, 101, 118, 97, 108, 105, 100, 97, 116, 101]⟩, .string ⟨#[111, 116, 104, 101, 114, 61, 49]⟩] 9)).alloc (.cells #[.string ⟨#[109, 117, 115, 116, 45, 114, 101, 118, 97, 108, 105, 100, 97, 116, 101]⟩] 9)) (some ⟨wr.heap.size + 1, 0, none⟩) [⟨#[109, 117, 115, 116, 45, 114, 101, 118, 97, 108, 105, 100, 97, 116, 101]⟩]) := Lib.hid (by
                  have h := one_str (wr.alloc (.cells #[.string ⟨#[110, 111, 45, 115, 116, 111, 114, 101]⟩, .string ⟨#[78, 111, 45, 67, 97, 99, 104, 101]⟩, .string ⟨#[112, 114, 105, 118, 97, 116, 101, 61, 34, 120, 44, 32, 121, 34]⟩, .string ⟨#[112, 117, 98, 108, 105, 99]⟩, .string ⟨#[109, 117, 115, 116, 45, 114, 101, 118, 97, 108, 105, 100, 97, 116, 101]⟩, .string ⟨#[111, 116, 104, 101, 114, 61, 49]⟩] 9)) ⟨#[109, 117, 115, 116, 45, 114, 101, 118, 97, 108, 105, 100, 97, 116, 101]⟩
                  rwa [show (wr.alloc (.cells #[.string ⟨#[110, 111, 45, 115, 116, 111, 114, 101]⟩, .string ⟨#[78, 111, 45, 67, 97, 99, 104, 101]⟩, .string ⟨#[112, 114, 105, 118, 97, 116, 101, 61, 34, 120, 44, 32, 121, 34]⟩, .string ⟨#[112, 117, 98, 108, 105, 99]⟩, .string ⟨#[109, 117, 115, 116, 45, 114, 101, 118, 97, 108, 105, 100, 97, 116, 101]⟩, .string ⟨#[111, 116, 104, 101, 114, 61, 49]⟩] 9)).heap.size = wr.heap.size + 1 by simp] at h)
                have HSB : Hid (w1.heap.size ≤ ((wr.alloc (.cells #[.string ⟨#[110, 111, 45, 115, 116, 111, 114, 101]⟩, .string ⟨#[78, 111, 45, 67, 97, 99, 104, 101]⟩, .string ⟨#[112, 114, 105, 118, 97, 116, 101, 61, 34, 120, 44, 32, 121, 34]⟩, .string ⟨#[112, 117, 98, 108, 105, 99]⟩, .string ⟨#[109, 117, 115, 116, 45, 114, 101, 118, 97, 108, 105, 100, 97, 116, 101]⟩, .string ⟨#[111, 116, 104, 101, 114, 61, 49]⟩] 9)).alloc (.cells #[.string ⟨#[109, 117, 115, 116, 45, 114, 101, 118, 97, 108, 105, 100, 97, 116, 101]⟩] 9)).heap.size) := Lib.hid (by have := HB.out.size; simp; omega)
                have HBW := Lib.hid ((HB.out.alloc HB.out.size (.cells #[.string ⟨#[110, 111, 45, 115, 116, 111, 114, 101]⟩, .string ⟨#[78, 111, 45, 67, 97, 99, 104, 101]⟩, .string ⟨#[112, 114, 105, 118, 97, 116, 101, 61, 34, 120, 44, 32, 121, 34]⟩, .string ⟨#[112, 117, 98, 108, 105, 99]⟩, .string ⟨#[109, 117, 115, 116, 45, 114, 101, 118, 97, 108, 105, 100, 97, 116, 101]⟩, .string ⟨#[111, 116, 104, 101, 114, 61, 49]⟩] 9)).alloc (by have := HB.out.size; simp; omega) (.cells #[.string ⟨#[109, 117, 115, 116, 45, 114, 101, 118, 97, 108, 105, 100, 97, 116, 101]⟩] 9))
                have HOW : Hid (OwnStrs w1.heap.size ((wr.alloc (.cells #[.string ⟨#[110, 111, 45, 115, 116, 111, 114, 101]⟩, .string ⟨#[78, 111, 45, 67, 97, 99, 104, 101]⟩, .string ⟨#[112, 114, 105, 118, 97, 116, 101, 61, 34, 120, 44, 32, 121, 34]⟩, .string ⟨#[112, 117, 98, 108, 105, 99]⟩, .string ⟨#[109, 117, 115, 116, 45, 114, 101, 118, 97, 108, 105, 100, 97, 116, 101]⟩, .string ⟨#[111, 116, 104, 101, 114, 61, 49]⟩] 9)).alloc (.cells #[.string ⟨#[109, 117, 115, 116, 45, 114, 101, 118, 97, 108, 105, 100, 97, 116, 101]⟩] 9)) v2 L) := Lib.hid (World.ownsRow.alloc (World.ownsRow.alloc HO.out _) _)
                go_wp2_with ((with_reducible show wpList _ _ _ (⟨some 58, _, _, _, _, _⟩ :: _) _ _); refine wpList_append_strs rfl _ _ rfl w1.heap.size (wr.heap.size + 1 + 1) v2 L rfl HOW.out HSB.out (some ⟨wr.heap.size + 1, 0, none⟩) 1 1 [⟨#[109, 117, 115, 116, 45, 114, 101, 118, 97, 108, 105, 100, 97, 116, 101]⟩] rfl rfl HS.out (fun e => by cases e) hln ?_; intro v4 w4 ho hg; have HO4 := Lib.hid ho; have HB4 := Lib.hid (HBW.out.grown hg HSB.out (fun g h => (World.ownsRow.lt HOW.out g h).1)); clear ho hg)
                go_roundw
                case rel => exact ⟨k2 + 1, _, by omega, by go_num, rfl, Lib.hid (by rw [HTM2.out, HX.out]; exact HO4.out), HB4⟩
                case measure => simp [intOf]; omega
              · have e1 : (n : Int).tmod 6 = 5 := by rw [Int.tmod_eq_emod_of_nonneg (by omega)]; omega
                have HX : Hid (partB n = ⟨#[111, 116, 104, 101, 114, 61, 49]⟩) := Lib.hid (by unfold partB; rw [hj] <;> rfl)
                clear hj
                have HS : Hid (StrsIn (wr.heap.size + 1 + 1) ((wr.alloc (.cells #[.string ⟨#[110, 111, 45, 115, 116, 111, 114, 101]⟩, .string ⟨#[78, 111, 45, 67, 97, 99, 104, 101]⟩, .string ⟨#[112, 114, 105, 118, 97, 116, 101, 61, 34, 120, 44, 32, 121, 34]⟩, .string ⟨#[112, 117, 98, 108, 105, 99]⟩, .string ⟨#[109, 117, 115, 116, 45, 114, 101, 118, 97, 108, 105, 100, 97, 116, 101]⟩, .string ⟨#[111, 116, 104, 101, 114, 61, 49]⟩] 9)).alloc (.cells #[.string ⟨#[111, 116, 104, 101, 114, 61, 49]⟩] 9)) (some ⟨wr.heap.size + 1, 0, none⟩) [⟨#[111, 116, 104, 101, 114, 61, 49]⟩]) := Lib.hid (by
                  have h := one_str (wr.alloc (.cells #[.string ⟨#[110, 111, 45, 115, 116, 111, 114, 101]⟩, .string ⟨#[78, 111, 45, 67, 97, 99, 104, 101]⟩, .string ⟨#[112, 114, 105, 118, 97, 116, 101, 61, 34, 120, 44, 32, 121, 34]⟩, .string ⟨#[112, 117, 98, 108, 105, 99]⟩, .string ⟨#[109, 117, 115, 116, 45, 114, 101, 118, 97, 108, 105, 100, 97, 116, 101]⟩, .string ⟨#[111, 116, 104, 101, 114, 61, 49]⟩] 9)) ⟨#[111, 116, 104, 101, 114, 61, 49]⟩
                  rwa [show (wr.alloc (.cells #[.string ⟨#[110, 111, 45, 115, 116, 111, 114, 101]⟩, .string ⟨#[78, 111, 45, 67, 97, 99, 104, 101]⟩, .string ⟨#[112, 114, 105, 118, 97, 116, 101, 61, 34, 120, 44, 32, 121, 34]⟩, .string ⟨#[112, 117, 98, 108, 105, 99]⟩, .string ⟨#[109, 117, 115, 116, 45, 114, 101, 118, 97, 108, 105, 100, 97, 116, 101]⟩, .string ⟨#[111, 116, 104, 101, 114, 61, 49]⟩] 9)).heap.size = wr.heap.size + 1 by simp] at h)
                have HSB : Hid (w1.heap.size ≤ ((wr.alloc (.cells #[.string ⟨#[110, 111, 45, 115, 116, 111, 114, 101]⟩, .string ⟨#[78, 111, 45, 67, 97, 99, 104, 101]⟩, .string ⟨#[112, 114, 105, 118, 97, 116, 101, 61, 34, 120, 44, 32, 121, 34]⟩, .string ⟨#[112, 117, 98, 108, 105, 99]⟩, .string ⟨#[109, 117, 115, 116, 45, 114, 101, 118, 97, 108, 105, 100, 97, 116, 101]⟩, .string ⟨#[111, 116, 104, 101, 114, 61, 49]⟩] 9)).alloc (.cells #[.string ⟨#[111, 116, 104, 101, 114, 61, 49]⟩] 9)).heap.size) := Lib.hid (by have := HB.out.size; simp; omega)
                have HBW := Lib.hid ((HB.out.alloc HB.out.size (.cells #[.string ⟨#[110, 111, 45, 115, 116, 111, 114, 101]⟩, .string ⟨#[78, 111, 45, 67, 97, 99, 104, 101]⟩, .string ⟨#[112, 114, 105, 118, 97, 116, 101, 61, 34, 120, 44, 32, 121, 34]⟩, .string ⟨#[112, 117, 98, 108, 105, 99]⟩, .string ⟨#[109, 117, 115, 116, 45, 114, 101, 118, 97, 108, 105, 100, 97, 116, 101]⟩, .string ⟨#[111, 116, 104, 101, 114, 61, 49]⟩] 9)).alloc (by have := HB.out.size; simp; omega) (.cells #[.string ⟨#[111, 116, 104, 101, 114, 61, 49]⟩] 9))
                have HOW : Hid (OwnStrs w1.heap.size ((wr.alloc (.cells #[.string ⟨#[110, 111, 45, 115, 116, 111, 114, 101]⟩, .string ⟨#[78, 111, 45, 67, 97, 99, 104, 101]⟩, .string ⟨#[112, 114, 105, 118, 97, 116, 101, 61, 34, 120, 44, 32, 121, 34]⟩, .string ⟨#[112, 117, 98, 108, 105, 99]⟩, .string ⟨#[109, 117, 115, 116, 45, 114, 101, 118, 97, 108, 105, 100, 97, 116, 101]⟩, .string ⟨#[111, 116, 104, 101, 114, 61, 49]⟩] 9)).alloc (.cells #[.string ⟨#[111, 116, 104, 101, 114, 61, 49]⟩] 9)) v2 L) := Lib.hid (World.ownsRow.alloc (World.ownsRow.alloc HO.out _) _)
                go_wp2_with ((with_reducible show wpList _ _ _ (⟨some 58, _, _, _, _, _⟩ :: _) _ _); refine wpList_append_strs rfl _ _ rfl w1.heap.size (wr.heap.size + 1 + 1) v2 L rfl HOW.out HSB.out (some ⟨wr.heap.size + 1, 0, none⟩) 1 1 [⟨#[111, 116, 104, 101, 114, 61, 49]⟩] rfl rfl HS.out (fun e => by cases e) hln ?_; intro v4 w4 ho hg; have HO4 := Lib.hid ho; have HB4 := Lib.hid (HBW.out.grown hg HSB.out (fun g h => (World.ownsRow.lt HOW.out g h).1)); clear ho hg)
                go_roundw
                case rel => exact ⟨k2 + 1, _, by omega, by go_num, rfl, Lib.hid (by rw [HTM2.out, HX.out]; exact HO4.out), HB4⟩
                case measure => simp [intOf]; omega
            · have HA2 : Hid (la.map partA ++ (lb.take k2).map partB = partsO la lb) := Lib.hid (by rw [List.take_of_length_le (by omega)]; rfl)
              have HO2 : Hid (OwnStrs w1.heap.size wr v2 (partsO la lb)) := Lib.hid (by rw [← HA2.out]; exact HO.out)
              have hpl : (partsO la lb).length = la.length + lb.length := by unfold partsO; rw [List.length_append, List.length_map, List.length_map]
              obtain ⟨P, hP⟩ : ∃ P, partsO la lb = P := ⟨_, rfl⟩
              have HPEQ := Lib.hid hP
              rw [hP] at HO2 hpl
              obtain ⟨ap, np, cp, rfl, hnp, hin⟩ := own_in HO2.out
              have hp12 : np ≤ 12 := by omega
              have HIN := Lib.hid hin
              have HNP := Lib.hid hnp
              have HBW := HB
              clear HO HB HA2 HO2 hP hpl hin hnp
              obtain ⟨wq, rfl⟩ : ∃ wq, wq = wr := ⟨_, rfl⟩
              obtain ⟨w3, hw3⟩ : ∃ w3, wq.alloc (.cells #[] 29) = w3 := ⟨_, rfl⟩
              have hb3 : Below wq.heap.size wq w3 := by rw [← hw3]; exact (Below.refl _ _).alloc (Nat.le_refl _) _
              have hm3 : w3.ownsRow wq.heap.size 29 2 (.slice (some ⟨wq.heap.size, 0, none⟩) 0 0) 0 [] := by rw [← hw3]; exact World.ownsRow_lit (base := wq.heap.size) (size := 2) (e := 29) wq #[] 0 (Nat.le_refl _) (by decide) rfl
              have HW3 := Lib.hid hw3
              have HB3 := Lib.hid hb3
              have HM3 := Lib.hid hm3
              have hbig : HOKP P := by rw [← HPEQ.out]; exact parts_ok HA16.out
              have HBIG := Lib.hid hbig
              have hqq : ∃ q : Nat, (0 < np → placeF turn np = (q : Int) ∧ q < np) := by
                by_cases h0 : 0 < np
                · have := placeF_in (n := turn) (m := (np : Int)) (by omega)
                  exact ⟨(placeF turn np).toNat, fun _ => ⟨by omega, by omega⟩⟩
                · exact ⟨0, fun h => absurd h h0⟩
              obtain ⟨q, hq⟩ := hqq
              have HQ := Lib.hid hq
              clear hw3 hb3 hm3 hbig hq
              go_wp2
              change Code.wp _ _ _ _ (wq.alloc (.cells #[] 29))
              rw [HW3.out]
              go_loopw [14, 12, 13] (fun i o v wr => ∃ (k : Nat) (t : ByteArray) (v0 : Value), k ≤ np ∧ i = .int .i64 k ∧ o = .string t ∧ v0 = v ∧ Hid (t = arr (joinO (P.take k)) ∧ t.size ≤ 50 * k) ∧ Hid (wr.ownsRow wq.heap.size 29 2 v0 k (fieldCells (fieldsO cacheU ((P.drop q ++ P.take q).take k)))) ∧ Hid (Below wq.heap.size wq wr)) (fun i _ _ _ => np - (intOf i).toNat)
              case atStart => exact ⟨0, ⟨#[]⟩, _, Nat.zero_le _, rfl, rfl, rfl, Lib.hid ⟨rfl, Nat.zero_le _⟩, HM3, HB3⟩
              case round =>
                obtain ⟨k3, t, v3, hk3, rfl, rfl, rfl, HT3, HM, HBZ⟩ := hrel
                by_cases hkl : k3 < np
                · have hk' : k3 < P.length := by have := HNP.out; omega
                  obtain ⟨b, off, rfl, hbl, hc0⟩ := HIN.out k3 hk'
                  have x0 := (HBZ.out.cell (p := ⟨b, off + k3, none⟩) hbl).trans hc0
                  have hnp := HNP.out
                  have hpos : 0 < np := by omega
                  obtain ⟨hpq, hq⟩ := HQ.out hpos
                  obtain ⟨r, hr⟩ : ∃ r, (k3 + q) % P.length = r := ⟨_, rfl⟩
                  have hrl : r < P.length := by rw [← hr]; exact Nat.mod_lt _ (by omega)
                  obtain ⟨b', off', e', _, hcr⟩ := HIN.out r hrl
                  injection e' with e'
                  injection e' with e1 e2
                  subst e1; subst e2
                  have xr := (HBZ.out.cell (p := ⟨b, off + r, none⟩) hbl).trans hcr
                  have htake : (P.drop q ++ P.take q).take (k3 + 1) = (P.drop q ++ P.take q).take k3 ++ [P[r]] := by
                    have hlt : k3 < (P.drop q ++ P.take q).length := by rw [List.length_append, List.length_drop, List.length_take]; omega
                    rw [List.take_succ_eq_append_getElem hlt]
                    have := turned_at P q k3 (by omega) (by omega)
                    rw [List.getElem?_eq_getElem hlt, hr, List.getElem?_eq_getElem hrl] at this
                    injection this with this
                    rw [this]
                  have HTK := Lib.hid htake
                  have HJ : Hid (P.take (k3 + 1) = P.take k3 ++ [P[k3]]) := Lib.hid (List.take_succ_eq_append_getElem hk')
                  have hz1p := (HBIG.out _ (List.getElem_mem hk')).2
                  have hzr := (HBIG.out _ (List.getElem_mem hrl)).2
                  obtain ⟨x, hx⟩ : ∃ x, P[k3] = x := ⟨_, rfl⟩
                  obtain ⟨y, hy⟩ : ∃ y, P[r] = y := ⟨_, rfl⟩
                  rw [hx] at x0 hz1p HJ
                  rw [hy] at xr hzr HTK
                  have er : ((k3 : Int) + (q : Int)).tmod (np : Int) = (r : Int) := by
                    rw [Int.tmod_eq_emod_of_nonneg (by omega), ← hr, ← hnp]
                    simp
                  have er2 : ((k3 : Int) + (q : Int)) % (np : Int) = (r : Int) := by rw [← hr, ← hnp]; simp
                  have hr12 : r < np := by omega
                  have htz := HT3.out.2
                  have cP := fun w => place_any turn np w hpos (by omega) t1 t2
                  rw [hpq] at cP
                  have CP := Lib.hid cP
                  have HMW := Lib.hid (World.ownsRow.alloc HM.out (.cells #[.string cacheU, .string y] 29))
                  have HCW : Hid (∀ j u, [Value.string cacheU, Value.string y][j]? = some u → (wr.alloc (.cells #[.string cacheU, .string y] 29)).cell? ((⟨wr.heap.size, 0, none⟩ : Addr).add j) = some u) := Lib.hid (by
                    intro j u hj
                    match j, hj with
                    | 0, hj => injection hj with hj; subst hj; simp [go_sem, Addr.add]
                    | 1, hj => injection hj with hj; subst hj; simp [go_sem, Addr.add])
                  have HSBZ : Hid (wq.heap.size ≤ (wr.alloc (.cells #[.string cacheU, .string y] 29)).heap.size) := Lib.hid (by have := HBZ.out.size; simp; omega)
                  have HBZW := Lib.hid (HBZ.out.alloc HBZ.out.size (.cells #[.string cacheU, .string y] 29))
                  have HX1 : Hid (k3 + 1 ≤ maxLen) := Lib.hid (by unfold maxLen; omega)
                  have HX2 : Hid ((k3 + 1) * 32 ≤ 140737488355328) := Lib.hid (by omega)
                  clear hc0 hcr hr hrl htake hx hy cP hpq hnp
                  obtain ⟨i1, fi, fz0, fz1, fz2⟩ := infoField
                  by_cases h0 : k3 = 0
                  · have HV : Hid (t ++ x = arr (joinO (P.take (k3 + 1))) ∧ (t ++ x).size ≤ 50 * (k3 + 1)) := Lib.hid ⟨by
                      rw [HJ.out, HT3.out.1, h0]
                      apply bytes_injC
                      rw [ByteArray.data_append]
                      simp [arr, joinO, tailO], by rw [ByteArray.size_append]; omega⟩
                    have g0 : decide ((0 : Int) < (k3 : Int)) = false := by rw [decide_eq_false_iff_not]; omega
                    have g2 : decide (0 < k3) = false := by rw [decide_eq_false_iff_not]; omega
                    have g3 : ¬ 0 < k3 := by omega
                    clear h0
                    go_wp2_with fail
                    refine (CP.out wr).mono ?_
                    rintro e wA ⟨rfl, rfl⟩
                    go_wp2_with ((with_reducible show wpList _ _ _ (⟨some 92, _, _, _, _, _⟩ :: _) _ _); refine wpList_append_own _ rfl _ _ 30 rfl wq.heap.size 29 i1 _ 2 32 Tryd.underlying30 fi fz0 fz1 fz2 rfl (by decide) v3 k3 _ rfl HMW.out ⟨wA.heap.size, 0, none⟩ 1 1 [.string cacheU, .string y] rfl rfl HCW.out (by simp [Value.oneCell']) HX1.out HX2.out HSBZ.out ?_; intro v4 w4 ho hg _; have HO4 := Lib.hid ho; have HB4 := Lib.hid (HBZW.out.grown hg HSBZ.out (fun g h => (World.ownsRow.lt HMW.out g h).1)); clear ho hg)
                    go_roundw
                    case rel => exact ⟨k3 + 1, _, _, by omega, by go_num, rfl, rfl, HV, Lib.hid (by rw [HTK.out, fields_snoc]; exact HO4.out), HB4⟩
                    case measure => simp [intOf]; omega
                  · have HV : Hid (t ++ ⟨#[32, 44]⟩ ++ x = arr (joinO (P.take (k3 + 1))) ∧ (t ++ ⟨#[32, 44]⟩ ++ x).size ≤ 50 * (k3 + 1)) := Lib.hid ⟨by
                      rw [HJ.out, joinO_snoc _ _ (by intro h; have := congrArg List.length h; rw [List.length_take, List.length_nil] at this; omega), HT3.out.1]
                      apply bytes_injC
                      rw [ByteArray.data_append, ByteArray.data_append]
                      simp [arr], by rw [ByteArray.size_append, ByteArray.size_append]; have : (⟨#[32, 44]⟩ : ByteArray).size = 2 := rfl; omega⟩
                    have g0 : decide ((0 : Int) < (k3 : Int)) = true := by rw [decide_eq_true_iff]; omega
                    have g1 : (0 : Int) < (k3 : Int) := by omega
                    have g2 : decide (0 < k3) = true := by rw [decide_eq_true_iff]; omega
                    have g3 : 0 < k3 := by omega
                    clear h0
                    go_wp2_with fail
                    refine (CP.out wr).mono ?_
                    rintro e wA ⟨rfl, rfl⟩
                    go_wp2_with ((with_reducible show wpList _ _ _ (⟨some 92, _, _, _, _, _⟩ :: _) _ _); refine wpList_append_own _ rfl _ _ 30 rfl wq.heap.size 29 i1 _ 2 32 Tryd.underlying30 fi fz0 fz1 fz2 rfl (by decide) v3 k3 _ rfl HMW.out ⟨wA.heap.size, 0, none⟩ 1 1 [.string cacheU, .string y] rfl rfl HCW.out (by simp [Value.oneCell']) HX1.out HX2.out HSBZ.out ?_; intro v4 w4 ho hg _; have HO4 := Lib.hid ho; have HB4 := Lib.hid (HBZW.out.grown hg HSBZ.out (fun g h => (World.ownsRow.lt HMW.out g h).1)); clear ho hg)
                    go_roundw
                    case rel => exact ⟨k3 + 1, _, _, by omega, by go_num, rfl, rfl, HV, Lib.hid (by rw [HTK.out, fields_snoc]; exact HO4.out), HB4⟩
                    case measure => simp [intOf]; omega
                · have hPl := HNP.out
                  have hT : (P.drop q ++ P.take q).take k3 = P.drop q ++ P.take q := List.take_of_length_le (by rw [List.length_append, List.length_drop, List.length_take]; omega)
                  have hTl : (P.drop q ++ P.take q).length = k3 := by rw [List.length_append, List.length_drop, List.length_take]; omega
                  have hperm : (P.drop q ++ P.take q).Perm P := by
                    have := List.perm_append_comm (l₁ := P.drop q) (l₂ := P.take q)
                    rwa [List.take_append_drop] at this
                  obtain ⟨T, hTe⟩ : ∃ T, P.drop q ++ P.take q = T := ⟨_, rfl⟩
                  rw [hT, hTe] at HM
                  rw [hTe] at hperm hTl
                  have hok : HOKP T := fun x hx => HBIG.out x (hperm.mem_iff.1 hx)
                  obtain ⟨av, cv, rfl, hin⟩ := own_fieldsIn (by unfold fieldsO; rw [List.length_map]; exact hTl) HM.out
                  have HINM := Lib.hid hin
                  have ht1 : t = arr (joinO P) := by rw [HT3.out.1, List.take_of_length_le (by omega)]
                  have htz := HT3.out.2
                  have hone : parseF [(cacheN, t)] = ctlL P := parse_one (fun y hy => (HBIG.out y hy).1) t ht1
                  have hmany : parseF (fieldsO cacheU T) = ctlL P := by
                    rw [parse_many (by decide +kernel) (fun y hy => (hok y hy).1), fold_perm hperm]
                  have hfew : FewF (fieldsO cacheU T) := few_fields (by decide) (by omega) (fun x hx => by have := (hok x hx).2; omega)
                  have hfl : (fieldsO cacheU T).length = k3 := by unfold fieldsO; rw [List.length_map]; exact hTl
                  have HFEW := Lib.hid hfew
                  have HMANY := Lib.hid hmany
                  have HFL := Lib.hid hfl
                  obtain ⟨fm, hfm⟩ : ∃ fm, fieldsO cacheU T = fm := ⟨_, rfl⟩
                  rw [hfm] at HINM HFEW HMANY HFL
                  obtain ⟨cc, hcc⟩ : ∃ cc, ctlL P = cc := ⟨_, rfl⟩
                  rw [hcc] at HMANY hone
                  obtain ⟨v1, hv1⟩ : ∃ v1, wr.alloc (.cells #[.string cacheN, .string t] 29) = v1 := ⟨_, rfl⟩
                  have hbv1 : Below wr.heap.size wr v1 := by rw [← hv1]; exact (Below.refl _ _).alloc (Nat.le_refl _) _
                  have hin1 : FieldsIn v1.heap.size v1 (some ⟨wr.heap.size, 0, none⟩) [(cacheN, t)] := by
                    have := k_fields wr cacheN t
                    have hz : v1.heap.size = wr.heap.size + 1 := by rw [← hv1]; simp
                    rw [hv1] at this
                    rw [hz]
                    exact this
                  have cP1 := parse_any [(cacheN, t)] (some ⟨wr.heap.size, 0, none⟩) 1 v1 hin1 ⟨by show 1 ≤ 100000; omega, fun j hj => by
                    obtain rfl : j = 0 := by simpa using hj
                    exact ⟨by show cacheN.size ≤ 1000000; decide, by show t.size ≤ 1000000; omega⟩⟩
                  unfold ParsePost at cP1
                  rw [hone] at cP1
                  have CP1 := Lib.hid cP1
                  have HV1 := Lib.hid hv1
                  have HBV1 := Lib.hid hbv1
                  have HBALL := Lib.hid (HBW.out.trans (HBZ.out.mono HBW.out.size))
                  clear hPl hT hTl hperm hTe hok hin ht1 hone hmany hfew hfl hfm hcc hbv1 hin1 cP1 htz HT3 HM HBZ hv1
                  go_wp2_with fail
                  change Calls _ _ _ (wr.alloc (.cells #[.string cacheN, .string t] 29)) _
                  rw [HV1.out]
                  refine CP1.out.mono ?_
                  rintro e v2 ⟨rfl, hb2⟩
                  have HBV2 := Lib.hid (HBV1.out.trans (hb2.mono HBV1.out.size))
                  clear hb2
                  obtain ⟨v3, hv3⟩ : ∃ v3, v2.alloc (.cells #[.bool cc.noStore, .bool cc.noCache, .bool cc.priv, .bool cc.pub, .bool cc.must, .bool cc.prox, .bool cc.only, .bool cc.anyStale, .int .i64 cc.maxA, .int .i64 cc.sMax, .int .i64 cc.minF, .int .i64 cc.maxS] 23) = v3 := ⟨_, rfl⟩
                  have hc3 : CtlAt v3 v2.heap.size cc := by unfold CtlAt; rw [← hv3]; exact heap_alloc_new v2 _
                  have hbv3 : Below wr.heap.size wr v3 := by rw [← hv3]; exact HBV2.out.alloc HBV2.out.size _
                  have KC : Hid (∀ y : Kin v3, CtlAt y.wd v2.heap.size cc) := Lib.hid (fun y => hc3.spares (Below.spares (F := nowhere) y.below (fun k hk => .inr hk)) (fun h => h))
                  have KIN : Hid (∀ y : Kin v3, FieldsIn y.wd.heap.size y.wd av fm) := Lib.hid (fun y => kin_in (w := wr) ⟨y.wd, hbv3.trans (y.below.mono hbv3.size)⟩ HINM.out)
                  have CP : Hid (∀ y : Kin v3, Calls Tryd.prog 13 #[.slice av k3 cv] y.wd fun e w'' => e = .returned (.agg #[.bool cc.noStore, .bool cc.noCache, .bool cc.priv, .bool cc.pub, .bool cc.must, .bool cc.prox, .bool cc.only, .bool cc.anyStale, .int .i64 cc.maxA, .int .i64 cc.sMax, .int .i64 cc.minF, .int .i64 cc.maxS]) ∧ ∃ z : Kin v3, w'' = z.wd) := Lib.hid (fun y => Kin.calls (by
                    have := parse_any fm av cv y.wd (KIN.out y) HFEW.out
                    unfold ParsePost at this
                    rw [HMANY.out, HFL.out] at this
                    exact this))
                  have CR : Hid (∀ y : Kin v3, Calls Tryd.prog 16 #[.slice av k3 cv] y.wd fun e w'' => e = .returned (.agg #[.bool cc.noStore, .bool cc.noCache, .bool cc.priv, .bool cc.pub, .bool cc.must, .bool cc.prox, .bool cc.only, .bool cc.anyStale, .int .i64 cc.maxA, .int .i64 cc.sMax, .int .i64 cc.minF, .int .i64 cc.maxS]) ∧ ∃ z : Kin v3, w'' = z.wd) := Lib.hid (fun y => Kin.calls (by
                    have := refControl_any fm av cv y.wd (KIN.out y) HFEW.out
                    unfold ParsePost at this
                    rw [HMANY.out, HFL.out] at this
                    exact this))
                  have HV3 := Lib.hid hv3
                  have HBV3 := Lib.hid hbv3
                  clear hv3 hbv3 hc3
                  unfold ctlV
                  go_wp2
                  change Code.wp _ (Code.region _ _ _) _ _ (v2.alloc (.cells #[.bool cc.noStore, .bool cc.noCache, .bool cc.priv, .bool cc.pub, .bool cc.must, .bool cc.prox, .bool cc.only, .bool cc.anyStale, .int .i64 cc.maxA, .int .i64 cc.sMax, .int .i64 cc.minF, .int .i64 cc.maxS] 23))
                  rw [HV3.out]
                  have kc0 : ∀ y : Kin v3, y.wd.cell? ⟨v2.heap.size, 0, none⟩ = some (.bool cc.noStore) := fun y => (ctl_reads (KC.out y)).1
                  have kc1 : ∀ y : Kin v3, y.wd.cell? ⟨v2.heap.size, 1, none⟩ = some (.bool cc.noCache) := fun y => (ctl_reads (KC.out y)).2.1
                  have kc2 : ∀ y : Kin v3, y.wd.cell? ⟨v2.heap.size, 2, none⟩ = some (.bool cc.priv) := fun y => (ctl_reads (KC.out y)).2.2.1
                  have kc3 : ∀ y : Kin v3, y.wd.cell? ⟨v2.heap.size, 3, none⟩ = some (.bool cc.pub) := fun y => (ctl_reads (KC.out y)).2.2.2.1
                  have kc4 : ∀ y : Kin v3, y.wd.cell? ⟨v2.heap.size, 4, none⟩ = some (.bool cc.must) := fun y => (ctl_reads (KC.out y)).2.2.2.2.1
                  have kc5 : ∀ y : Kin v3, y.wd.cell? ⟨v2.heap.size, 5, none⟩ = some (.bool cc.prox) := fun y => (ctl_reads (KC.out y)).2.2.2.2.2.1
                  have kc6 : ∀ y : Kin v3, y.wd.cell? ⟨v2.heap.size, 6, none⟩ = some (.bool cc.only) := fun y => (ctl_reads (KC.out y)).2.2.2.2.2.2.1
                  have kc7 : ∀ y : Kin v3, y.wd.cell? ⟨v2.heap.size, 7, none⟩ = some (.bool cc.anyStale) := fun y => (ctl_reads (KC.out y)).2.2.2.2.2.2.2.1
                  have kc8 : ∀ y : Kin v3, y.wd.cell? ⟨v2.heap.size, 8, none⟩ = some (.int .i64 cc.maxA) := fun y => (ctl_reads (KC.out y)).2.2.2.2.2.2.2.2.1
                  have kc9 : ∀ y : Kin v3, y.wd.cell? ⟨v2.heap.size, 9, none⟩ = some (.int .i64 cc.sMax) := fun y => (ctl_reads (KC.out y)).2.2.2.2.2.2.2.2.2.1
                  have kc10 : ∀ y : Kin v3, y.wd.cell? ⟨v2.heap.size, 10, none⟩ = some (.int .i64 cc.minF) := fun y => (ctl_reads (KC.out y)).2.2.2.2.2.2.2.2.2.2.1
                  have kc11 : ∀ y : Kin v3, y.wd.cell? ⟨v2.heap.size, 11, none⟩ = some (.int .i64 cc.maxS) := fun y => (ctl_reads (KC.out y)).2.2.2.2.2.2.2.2.2.2.2
                  refine wp_region_kin (by kernel_rfl) (by kernel_rfl) ?_
                  repeat (go_big_quiet_step (first | (go_at_call 13; with_reducible exact CP.out _) | (go_at_call 16; with_reducible exact CR.out _)))
                  refine wpQuiet_nil ?_
                  intro _ hx
                  obtain ⟨y, rfl⟩ := hx
                  have HXY := Lib.hid (HB1.out.trans ((HBALL.out.trans ((HBV3.out.trans (y.below.mono HBV3.out.size)).mono HBALL.out.size)).mono HB1.out.size))
                  clear kc0 kc1 kc2 kc3 kc4 kc5 kc6 kc7 kc8 kc9 kc10 kc11
                  go_wp2
                  go_ret
                  exact ⟨rfl, HXY.out⟩
    · go_wp2
      go_ret
      exact ⟨rfl, HB1.out⟩
  · go_wp2
    go_ret
    exact ⟨rfl, HB1.out⟩
end Go.Proofs.YtkpkpfolgbpjbaaDoor
namespace Go.Proofs.YtkpkpfolgbpjbaaDoor
open Go.ChangeShapes Go.WideShapes Go.ChangeAt Go.RowKit

theorem u16s_open {H : Type} {W : World} {enc : TypeId × Value → H} {d : DataW H} {p : List MemPlace} {fuel : Nat} {a : Option Addr} {len cap : Nat}
    (hf : DataW.trod enc Tryd.prog W 0 (fun _ => true) true fuel 32 (Value.slice a len cap).cells.toList = some (d, p)) :
    ∃ l : List Nat, l.length = len ∧ U16At W a l ∧ (∀ n ∈ l, n ≤ 65535) ∧ len ≤ maxLen := by
  rcases open_ints Tryd.underlying32 Tryd.underlying34 (by kernel_rfl) hf with ⟨hcs, _⟩ | ⟨x, l, c, zs, hcs, _, hl, hm, hz, _, hcell, hwz⟩
  · simp [Value.cells] at hcs
    obtain ⟨rfl, rfl, rfl⟩ := hcs
    exact ⟨[], rfl, fun k hk => absurd hk (Nat.not_lt_zero _), fun _ h => (by cases h), Nat.zero_le _⟩
  · simp [Value.cells] at hcs
    obtain ⟨rfl, rfl, rfl⟩ := hcs
    have hzl : zs.length = cap := by simpa using hz
    have hb : ∀ i, i < zs.length → 0 ≤ zs.getD i 0 ∧ zs.getD i 0 ≤ 65535 := by
      intro i hi
      have hw := hwz (zs.getD i 0) (by rw [List.getD_eq_getElem?_getD, List.getElem?_eq_getElem hi]; exact List.getElem_mem hi)
      simpa [Lit.wf, IntKind.wrap, IntKind.bits, IntKind.signed] using bounds_u16 hw
    refine ⟨(zs.take len).map fun z => z.toNat, by simp; omega, ?_, ?_, by omega⟩
    · intro k hk
      have hk' : k < zs.length := by simp at hk; omega
      obtain ⟨b, off, rfl, hc⟩ := ints_at hcell (by omega)
      have h1 := hb k hk'
      have h2 := hc k hk'
      have e : ((((zs.take len).map fun z => z.toNat)[k] : Nat) : Int) = zs.getD k 0 := by
        rw [List.getElem_map, List.getElem_take, List.getD_eq_getElem?_getD, List.getElem?_eq_getElem hk', Option.getD_some]
        rw [List.getD_eq_getElem?_getD, List.getElem?_eq_getElem hk', Option.getD_some] at h1
        omega
      refine ⟨b, off, rfl, ?_, ?_⟩
      · rcases Nat.lt_or_ge b W.heap.size with h | h
        · exact h
        · simp [World.cell?, Array.getElem?_eq_none h] at h2
      · rw [e]; exact h2
    · intro n hn
      obtain ⟨z, hz, rfl⟩ := List.mem_map.1 hn
      obtain ⟨i, hi, rfl⟩ := List.getElem_of_mem (List.mem_of_mem_take hz)
      have h1 := hb i hi
      rw [List.getD_eq_getElem?_getD, List.getElem?_eq_getElem hi, Option.getD_some] at h1
      omega
theorem i64_edge {x : Int} (h : (Lit.int .i64 x).wf = true) : -9223372036854775808 ≤ x ∧ x ≤ 9223372036854775807 := i64_wide h
end Go.Proofs.YtkpkpfolgbpjbaaDoor
