/-
  Parts in any order, in one field or in many, say the same.
  What CtrlOrder's and CtrlCase's walks share: rows of texts and of fields in memory.
  The date that a field is.
  The age of a response.
  A field's normal form: its values joined, each run of blanks one space; in the program.
  policy.May's seven rules, each a closure over the request, the response, and what both say.
  Rows of CtrlCase: two rows of fields beside one another; a row of bytes whose letters are made great, one by one.
  The date that a field is, in the reference.
  The age of a response, in the reference.
  A control that came in, opened; the table that is laid.
-/
import Derived.Deep.RegionHeld3
import Derived.OpenShut
import Derived.Lib.SmallJoins
import Derived.Deep.Fields
import Derived.Lib.LaidTab
import Derived.Test.YtaimhfnddolilaaGreatDoorRows
import Derived.Test.YtaimhfnddolilaaGreatDoorMg2
import Derived.Test.YtaimhfnddolilaaGreatDoorMg4
import Derived.Test.YtaimhfnddolilaaGreatDoorMg13
import Derived.Test.YtaimhfnddolilaaGreatDoorMg18
import Derived.Test.YtaimhfnddolilaaGreatDoorMg22
import Derived.Test.YtaimhfnddolilaaGreatDoorMg25
import Derived.Test.YtaimhfnddolilaaGreatDoorMg26
import Derived.Test.YtaimhfnddolilaaGreatDoorMg27
import Derived.Test.YtaimhfnddolilaaGreatDoorMg29
import Derived.Test.YtaimhfnddolilaaGreatDoorMg31
namespace Go.Proofs.YtaimhfnddolilaaGreatDoor.CtrlS
open Go.RowKit HeadMath HeadS

theorem least_comm {o a b : Int} (ha : 0 ≤ a) (hb : 0 ≤ b) : leastF (leastF o a) b = leastF (leastF o b) a := by
  unfold leastF
  repeat' split
  all_goals omega
/-- The four numbers and the eight flags, each by itself. -/
theorem act_comm {k k' : Nat} {h h' : Bool} {n n' : Int} (hn : 0 ≤ n) (hn' : 0 ≤ n') (c : Ctl) : actK k h n (actK k' h' n' c) = actK k' h' n' (actK k h n c) := by
  have L := @least_comm
  match k, k' with
  | 0, 0 | 0, 1 | 0, 2 | 0, 3 | 0, 4 | 0, 5 | 0, 6 | 0, 7 | 0, 8 | 0, 9 => rfl
  | 1, 0 | 1, 1 | 1, 2 | 1, 3 | 1, 4 | 1, 5 | 1, 6 | 1, 7 | 1, 8 | 1, 9 => rfl
  | 2, 0 | 2, 1 | 2, 2 | 2, 3 | 2, 4 | 2, 5 | 2, 6 | 2, 7 | 2, 8 | 2, 9 => rfl
  | 3, 0 | 3, 1 | 3, 2 | 3, 3 | 3, 4 | 3, 5 | 3, 6 | 3, 7 | 3, 8 | 3, 9 => rfl
  | 4, 0 | 4, 1 | 4, 2 | 4, 3 | 4, 4 | 4, 5 | 4, 6 | 4, 7 | 4, 8 | 4, 9 => rfl
  | 5, 0 | 5, 1 | 5, 2 | 5, 3 | 5, 4 | 5, 5 | 5, 6 | 5, 7 | 5, 8 | 5, 9 => rfl
  | 6, 0 | 6, 1 | 6, 2 | 6, 3 | 6, 4 | 6, 5 | 6, 6 | 6, 7 | 6, 8 | 6, 9 => rfl
  | 7, 0 | 7, 1 | 7, 2 | 7, 3 | 7, 4 | 7, 5 | 7, 6 | 7, 8 | 7, 9 => rfl
  | 8, 0 | 8, 1 | 8, 2 | 8, 3 | 8, 4 | 8, 5 | 8, 6 | 8, 7 | 8, 9 => rfl
  | 9, 0 | 9, 1 | 9, 2 | 9, 3 | 9, 4 | 9, 5 | 9, 6 | 9, 7 | 9, 8 => rfl
  | 7, 7 => simp only [actK]; rw [L hn' hn]
  | 8, 8 => simp only [actK]; rw [L hn' hn]
  | 9, 9 => simp only [actK]; rw [L hn' hn]
  | 10, 0 | 10, 1 | 10, 2 | 10, 3 | 10, 4 | 10, 5 | 10, 6 | 10, 7 | 10, 8 | 10, 9 => cases h <;> rfl
  | 0, 10 | 1, 10 | 2, 10 | 3, 10 | 4, 10 | 5, 10 | 6, 10 | 7, 10 | 8, 10 | 9, 10 => cases h' <;> rfl
  | 10, 10 =>
    cases h <;> cases h'
    · rfl
    · rfl
    · rfl
    · simp only [actK, if_true]; rw [L hn' hn]
  | k + 11, k' => rfl
  | k, k' + 11 => rfl
theorem say_comm (c : Ctl) (a b : ByteArray) : sayF (sayF c a) b = sayF (sayF c b) a := act_comm (valSec_in _).1 (valSec_in _).1 c
theorem fold_perm {l m : List ByteArray} (h : l.Perm m) : ctlL l = ctlL m := by
  unfold ctlL
  generalize ctl0 = c
  induction h generalizing c with
  | nil => rfl
  | cons x _ ih => exact ih _
  | swap x y l => show l.foldl sayF (sayF (sayF c y) x) = l.foldl sayF (sayF (sayF c x) y); rw [say_comm]
  | trans _ _ ih1 ih2 => exact (ih1 c).trans (ih2 c)
/-- A part that a list takes as it stands. -/
def PartC (x : ByteArray) : Prop := x.data.toList ≠ [] ∧ Closed x.data.toList ∧ Bare x.data.toList
theorem told_part {x : ByteArray} (h : PartC x) : told (arr x.data.toList) = [x] := by
  have e : arr x.data.toList = x := rfl
  rw [e]
  unfold told
  rw [if_neg]
  intro h0
  rw [← size_list] at h0
  exact h.1 (List.eq_nil_of_length_eq_zero h0)
/-- The parts behind the first, each with a space and a comma ahead. -/
def tailO : List ByteArray → List UInt8
  | [] => []
  | y :: r => [32, 44] ++ (y.data.toList ++ tailO r)
theorem parts_order : ∀ (r : List ByteArray) (x : ByteArray), PartC x → (∀ y ∈ r, PartC y) → partsF (arr (x.data.toList ++ tailO r)) = x :: r
  | [], x, hx, _ => by
    show partsF (arr (x.data.toList ++ [])) = _
    have ht := trimF_of (u := []) (x := x.data.toList) (v := []) (fun c h => by cases h) (fun c h => by cases h) hx.2.2
    rw [List.nil_append, List.append_nil] at ht
    rw [parts_step _ [] [] hx.2.1 (.inl ⟨rfl, rfl⟩), ht, told_part hx, partsF_nil (v := arr []) rfl]
    rfl
  | y :: r, x, hx, hr => by
    have ht := trimF_of (u := []) (x := x.data.toList) (v := [32]) (fun c h => by cases h) (by decide) hx.2.2
    rw [List.nil_append] at ht
    have hc : Closed (x.data.toList ++ [32]) := Closed.append hx.2.1 (plain_closed rfl)
    have e : x.data.toList ++ tailO (y :: r) = (x.data.toList ++ [32]) ++ 44 :: (y.data.toList ++ tailO r) := by simp [tailO]
    rw [e, parts_step _ _ _ hc (.inr rfl), ht, told_part hx, parts_order r y (hr y (by simp)) (fun z hz => hr z (by simp [hz]))]
    rfl
theorem parts_one {x : ByteArray} (h : PartC x) : partsF x = [x] := by
  have := parts_order [] x h (fun _ h => by cases h)
  rwa [show tailO [] = [] from rfl, List.append_nil] at this
/-- In many fields. -/
def fieldsO (n : ByteArray) (m : List ByteArray) : List (ByteArray × ByteArray) := m.map fun x => (n, x)
theorem parse_many {n : ByteArray} (hn : sameF n.data.toList cacheN.data.toList = true) {m : List ByteArray} (h : ∀ y ∈ m, PartC y) : parseF (fieldsO n m) = ctlL m := by
  have ha : allF cacheN (fieldsO n m) = m := by
    unfold allF fieldsO
    rw [List.filter_eq_self.2 (by
      intro f hf
      obtain ⟨x, _, rfl⟩ := List.mem_map.1 hf
      exact hn), List.map_map]
    exact List.map_id m
  have hl : listF cacheN (fieldsO n m) = m := by
    unfold listF
    rw [ha]
    clear ha
    induction m with
    | nil => rfl
    | cons x m ih => rw [List.flatMap_cons, parts_one (h x (by simp)), ih (fun y hy => h y (by simp [hy]))]; rfl
  unfold parseF
  rw [ha, hl]
  split
  · rename_i h0
    subst h0
    rfl
  · rfl
end Go.Proofs.YtaimhfnddolilaaGreatDoor.CtrlS
namespace Go.Proofs.YtaimhfnddolilaaGreatDoor.CtrlS
open Go.RowKit HeadMath HeadS

/-- The slice that starts at a reads as the numbers l. -/
def U16At (w : World) (a : Option Addr) (l : List Nat) : Prop :=
  ∀ k (h : k < l.length), ∃ b off, a = some ⟨b, off, none⟩ ∧ b < w.heap.size ∧ w.cell? ⟨b, off + k, none⟩ = some (.int .u16 l[k])
theorem U16At.below {w w' : World} {a : Option Addr} {l : List Nat} (h : U16At w a l) (hb : Below w.heap.size w w') : U16At w' a l := by
  intro k hk
  obtain ⟨b, off, h1, h2, h3⟩ := h k hk
  exact ⟨b, off, h1, Nat.lt_of_lt_of_le h2 hb.size, (hb.cell (p := ⟨b, off + k, none⟩) h2).trans h3⟩
set_option maxRecDepth 100000 in
theorem infoField : ∃ i, Tryz.prog.info? 43 = some i ∧ i.zero = some (.agg #[.string ⟨#[]⟩, .string ⟨#[]⟩]) ∧ i.size = 2 ∧ i.bytes = 32 := ⟨_, rfl, by kernel_rfl, by kernel_rfl, by kernel_rfl⟩
theorem fields_snoc (n : ByteArray) (l : List ByteArray) (y : ByteArray) : fieldCells (fieldsO n (l ++ [y])) = fieldCells (fieldsO n l) ++ [.string n, .string y] := by simp [fieldCells, fieldsO]
theorem own_in {B : Nat} {w : World} {v : Value} {l : List ByteArray} (h : OwnStrs B w v l) : ∃ a n c, v = .slice a n c ∧ n = l.length ∧ StrsIn w.heap.size w a l := by
  by_cases h0 : l = []
  · subst h0
    obtain ⟨a, c, rfl, _⟩ := own_form (n := 0) h rfl
    exact ⟨a, 0, c, rfl, rfl, fun j hj => absurd hj (Nat.not_lt_zero _)⟩
  · obtain ⟨g, cap, rfl, h1, h2⟩ := World.ownsRow.form h (List.length_pos_iff.2 h0)
    refine ⟨_, _, cap, rfl, rfl, fun j hj => ⟨g, 0, rfl, h2, ?_⟩⟩
    have := h.cells (g := g) rfl j _ (strCells_at hj)
    have e : (⟨g, 0, none⟩ : Addr).add j = ⟨g, j, none⟩ := by unfold Addr.add; by_cases h0 : j = 0 <;> simp [h0]
    rw [e] at this
    rw [Nat.zero_add]
    exact this
theorem kin_in {w : World} {a : Option Addr} {l : List (ByteArray × ByteArray)} (y : Kin w) (h : FieldsIn w.heap.size w a l) : FieldsIn y.wd.heap.size y.wd a l := fun j hj => by
  obtain ⟨b, off, h1, h2, h3, h4⟩ := h j hj
  exact ⟨b, off, h1, Nat.lt_of_lt_of_le h2 y.below.size, (y.below.cell (p := ⟨b, off + j * 2, none⟩) h2).trans h3, (y.below.cell (p := ⟨b, off + j * 2 + 1, none⟩) h2).trans h4⟩
theorem few_fields {n : ByteArray} {l : List ByteArray} (hn : n.size ≤ 1000000) (hl : l.length ≤ 100000) (h : ∀ x ∈ l, x.size ≤ 1000000) : FewF (fieldsO n l) := by
  refine ⟨by unfold fieldsO; rw [List.length_map]; exact hl, fun j hj => ?_⟩
  have hj' : j < l.length := by unfold fieldsO at hj; rwa [List.length_map] at hj
  have e : (fieldsO n l)[j] = (n, l[j]) := List.getElem_map (fun x => (n, x))
  rw [e]
  exact ⟨hn, h _ (List.getElem_mem hj')⟩
end Go.Proofs.YtaimhfnddolilaaGreatDoor.CtrlS
namespace Go.Proofs.YtaimhfnddolilaaGreatDoor
open Go.RowKit HeadMath HeadS CtrlS DateMath

def DatePost (n : ByteArray) (fs : Flf) (w : World) (e : Ending) (w' : World) : Prop := e = .returned (.tuple #[.int .i64 (dateF n fs).1, .bool (dateF n fs).2]) ∧ Below w.heap.size w w'
set_option maxRecDepth 100000 in
set_option maxHeartbeats 4000000 in
theorem dateOf_any (fs : Flf) (n : ByteArray) (a : Option Addr) (c : Nat) (w : World) (h1 : TabP w) (h2 : TabS w) (hin : FieldsIn w.heap.size w a fs) (hf : FewF fs) (hn : n.size ≤ 1000) :
    Calls Tryz.prog 28 #[.slice a fs.length c, .string n] w (DatePost n fs w) := by
  have cG := get_any fs n a c w hin hf.small (by have := hf.1; omega) (by omega)
  have hV0 : textG n fs = (getF n fs).getD ⟨#[]⟩ := rfl
  have hz := textG_size hf n
  have hD1 : dateF n fs = ((readF (textG n fs).data.toList).1, (readF (textG n fs).data.toList).2 == 0) := rfl
  obtain ⟨V, hV⟩ : ∃ V, textG n fs = V := ⟨_, rfl⟩
  rw [hV] at hV0 hz hD1
  have CP := Lib.hid (fun x hx => parseD_at h1 h2 V (by omega) x hx)
  obtain ⟨X, hX⟩ : ∃ X, (readF V.data.toList).1 = X := ⟨_, rfl⟩
  obtain ⟨Y, hY⟩ : ∃ Y, (readF V.data.toList).2 = Y := ⟨_, rfl⟩
  rw [hX, hY] at CP hD1
  unfold DatePost
  rw [hD1]
  have HV := Lib.hid hV0
  have CG := Lib.hid cG
  obtain ⟨m, hm⟩ : ∃ m, fs.length = m := ⟨_, rfl⟩
  rw [hm] at CG ⊢
  clear cG h1 h2 hin hf hn hm hV0 hV hD1 hX hY hz
  go_enter Tryz.func28, Tryz.ntmps28
  go_wp2_with fail
  refine CG.out.mono ?_
  rintro e w1 ⟨hb, ⟨hg, rfl⟩ | ⟨v, hv, rfl⟩⟩
  · have HB := Lib.hid hb
    have he : (⟨#[]⟩ : ByteArray) = V := by rw [HV.out, hg]; rfl
    have HE := Lib.hid he
    clear hb hg he
    rw [HE.out]
    go_wp2_with fail
    refine (CP.out _ HB.out).mono ?_
    rintro e w2 ⟨rfl, hb2⟩
    have HB2 := Lib.hid hb2
    clear hb2
    go_wp2
    go_ret2
    exact ⟨rfl, HB2.out⟩
  · have HB := Lib.hid hb
    have he : v = V := by rw [HV.out, hv]; rfl
    clear hb hv
    subst he
    go_wp2_with fail
    refine (CP.out _ HB.out).mono ?_
    rintro e w2 ⟨rfl, hb2⟩
    have HB2 := Lib.hid hb2
    clear hb2
    go_wp2
    go_ret2
    exact ⟨rfl, HB2.out⟩
theorem read_nil : readF ([] : List UInt8) = (0, 80) := ex_readN
end Go.Proofs.YtaimhfnddolilaaGreatDoor
namespace Go.Proofs.YtaimhfnddolilaaGreatDoor
open Go.RowKit HeadMath HeadS CtrlS DateMath

def NumPost (v : Int) (w : World) (e : Ending) (w' : World) : Prop := e = .returned (.int .i64 v) ∧ Below w.heap.size w w'
set_option maxRecDepth 100000 in
set_option maxHeartbeats 8000000 in
theorem age_any (fs : Flf) (st asked came now : Int) (rs : ByteArray) (fa ba : Option Addr) (fc bn bc : Nat) (w : World) (h1 : TabP w) (h2 : TabS w) (hin : FieldsIn w.heap.size w fa fs) (hf : FewF fs) :
    Calls Tryz.prog 13 #[.agg #[.int .i64 st, .string rs, .slice fa fs.length fc, .slice ba bn bc], .agg #[.int .i64 asked, .int .i64 came], .int .i64 now] w (NumPost (ageF fs asked came now) w) := by
  obtain ⟨v, hv⟩ : ∃ v, (w.alloc (.cells #[.int .i64 st, .string rs, .slice fa fs.length fc, .slice ba bn bc] 25)).alloc (.cells #[.int .i64 asked, .int .i64 came] 27) = v := ⟨_, rfl⟩
  have hb : Below w.heap.size w v := by rw [← hv]; exact ((Below.refl _ _).alloc (Nat.le_refl _) _).alloc (by simp) _
  have hsz : v.heap.size = w.heap.size + 2 := by rw [← hv]; simp
  have c2 : v.cell? ⟨w.heap.size, 2, none⟩ = some (.slice fa fs.length fc) := by rw [← hv]; simp [go_sem]
  have t0 : v.cell? ⟨w.heap.size + 1, 0, none⟩ = some (.int .i64 asked) := by rw [← hv]; simp [go_sem]
  have t1 : v.cell? ⟨w.heap.size + 1, 1, none⟩ = some (.int .i64 came) := by rw [← hv]; simp [go_sem]
  have hin1 : FieldsIn v.heap.size v fa fs := kin_in (w := w) ⟨v, hb⟩ hin
  have hvs : Spares nowhere w v := Below.spares hb (fun k hk => .inr hk)
  have p1 : TabP v := h1.spares hvs (fun h => h)
  have p2 : TabS v := h2.spares hvs (fun h => h)
  have cD : ∀ x, Below v.heap.size v x → Calls Tryz.prog 28 #[.slice fa fs.length fc, .string dateN] x (DatePost dateN fs x) := fun x hx => dateOf_any fs dateN fa fc x (p1.up hx) (p2.up hx) (kin_in (w := v) ⟨x, hx⟩ hin1) hf (by decide)
  have cG := fun x (hx : Below v.heap.size v x) => get_any fs ageN fa fc x (kin_in (w := v) ⟨x, hx⟩ hin1) hf.small (by have := hf.1; omega) (by decide)
  unfold DatePost at cD
  have hz := textG_size hf ageN
  have hbd := dateF_bd dateN fs
  have hV0 : textG ageN fs = (getF ageN fs).getD ⟨#[]⟩ := rfl
  obtain ⟨V, hV⟩ : ∃ V, textG ageN fs = V := ⟨_, rfl⟩
  have hR0 : ageF fs asked came now = min (max (if (dateF dateN fs).2 then max (withinF came - (dateF dateN fs).1) 0 else 0) (max (secF (textG ageN fs).data.toList) 0 + max (withinF came - withinF asked) 0) + max (withinF now - withinF came) 0) 2147483647 := rfl
  rw [hV] at hV0 hz hR0
  obtain ⟨D, hD⟩ : ∃ D, (dateF dateN fs).1 = D := ⟨_, rfl⟩
  obtain ⟨G, hG⟩ : ∃ G, (dateF dateN fs).2 = G := ⟨_, rfl⟩
  rw [hD, hG] at cD hR0
  rw [hD] at hbd
  have CD := Lib.hid cD
  have CG := Lib.hid cG
  have HVV := Lib.hid hV0
  have HV := Lib.hid hv
  have HB := Lib.hid hb
  obtain ⟨s, hs⟩ : ∃ s, secF V.data.toList = s := ⟨_, rfl⟩
  have hs0 : s ≤ 2147483647 := by rw [← hs]; exact (secF_in _).2
  have CS : Hid (∀ x, Calls Tryz.prog 30 #[.string V] x fun e w' => e = .returned (.int .i64 s) ∧ w' = x) := Lib.hid (fun x => by have h := CtrlS.seconds_any V x (by omega); unfold SecPost at h; rw [← hs]; exact h)
  obtain ⟨wa, hwa⟩ : ∃ a, withinF asked = a := ⟨_, rfl⟩
  obtain ⟨wc, hwc⟩ : ∃ a, withinF came = a := ⟨_, rfl⟩
  obtain ⟨wn, hwn⟩ : ∃ a, withinF now = a := ⟨_, rfl⟩
  have b1 := within_le asked
  have b2 := within_le came
  have b3 := within_le now
  have W1 : Hid (∀ x, Calls Tryz.prog 27 #[.int .i64 asked] x fun e w' => e = .returned (.int .i64 wa) ∧ w' = x) := Lib.hid (fun x => by rw [← hwa]; exact within_any asked x)
  have W2 : Hid (∀ x, Calls Tryz.prog 27 #[.int .i64 came] x fun e w' => e = .returned (.int .i64 wc) ∧ w' = x) := Lib.hid (fun x => by rw [← hwc]; exact within_any came x)
  have W3 : Hid (∀ x, Calls Tryz.prog 27 #[.int .i64 now] x fun e w' => e = .returned (.int .i64 wn) ∧ w' = x) := Lib.hid (fun x => by rw [← hwn]; exact within_any now x)
  rw [hs, hwa, hwc, hwn] at hR0
  obtain ⟨R, hR⟩ : ∃ R, ageF fs asked came now = R := ⟨_, rfl⟩
  rw [hR] at hR0 ⊢
  have HR := Lib.hid hR0
  rw [hwa] at b1
  rw [hwc] at b2
  rw [hwn] at b3
  unfold NumPost
  obtain ⟨fl, hfl⟩ : ∃ n, fs.length = n := ⟨_, rfl⟩
  rw [hfl] at CD CG c2 HV ⊢
  unfold dateN at CD
  unfold ageN at CG HVV
  clear cD cG hin hin1 hf hs hwa hwc hwn hb hv h1 h2 p1 p2 hvs hV hV0 hR hR0 hD hG hfl hz
  go_enter Tryz.func13, Tryz.ntmps13
  go_wp2_with fail
  change Code.wp _ _ _ _ ((w.alloc (.cells #[.int .i64 st, .string rs, .slice fa fl fc, .slice ba bn bc] 25)).alloc (.cells #[.int .i64 asked, .int .i64 came] 27))
  rw [HV.out]
  have d0 : v.drew.cell? ⟨w.heap.size + 1, 0, none⟩ = some (.int .i64 asked) := t0
  have d1 : v.drew.cell? ⟨w.heap.size + 1, 1, none⟩ = some (.int .i64 came) := t1
  go_region_held3 (fun x => x.cell? ⟨w.heap.size + 1, 0, none⟩ = some (.int .i64 asked) ∧ x.cell? ⟨w.heap.size + 1, 1, none⟩ = some (.int .i64 came))
    (first | exact ⟨d0, d1⟩ | go_keep)
    (first
      | (go_simp
         go_at_call 27
         (with_reducible refine Calls.mono (W1.out _) ?_)
         rintro e wn ⟨rfl, rfl⟩)
      | (go_simp
         go_at_call 27
         (with_reducible refine Calls.mono (W2.out _) ?_)
         rintro e wn ⟨rfl, rfl⟩))
  all_goals
    have HD1 : Hid (Below v.heap.size v v.drew) := Lib.hid (Below.drew (Below.refl _ _))
    have c2d : v.drew.cell? ⟨w.heap.size, 2, none⟩ = some (.slice fa fl fc) := c2
    go_wp2_with fail
    refine (CD.out _ HD1.out).mono ?_
    rintro e w4 ⟨rfl, hb4⟩
    have HB4 := Lib.hid (HD1.out.trans (hb4.mono HD1.out.size))
    have c24 : w4.cell? ⟨w.heap.size, 2, none⟩ = some (.slice fa fl fc) := (HB4.out.cell (p := ⟨w.heap.size, 2, none⟩) (by show w.heap.size < v.heap.size; omega)).trans c2
    clear hb4
    have q0 : IntKind.i64.wrap (wc - D) = wc - D := by rw [IntKind.wrap_i64]; omega
    have q1 : IntKind.i64.wrap (wc - wa) = wc - wa := by rw [IntKind.wrap_i64]; omega
    have q2 : IntKind.i64.wrap (max s 0 + max (wc - wa) 0) = max s 0 + max (wc - wa) 0 := by rw [IntKind.wrap_i64]; omega
    have q3 : IntKind.i64.wrap (wn - wc) = wn - wc := by rw [IntKind.wrap_i64]; omega
    have q4 : ∀ y : Int, 0 ≤ y → y ≤ 253402300799 → IntKind.i64.wrap (max y (max s 0 + max (wc - wa) 0) + max (wn - wc) 0) = max y (max s 0 + max (wc - wa) 0) + max (wn - wc) 0 := by intro y hy hy'; rw [IntKind.wrap_i64]; omega
    cases G with
    | false =>
      have q4 := q4 0 (by omega) (by omega)
      have HRR : Hid (min (max 0 (max s 0 + max (wc - wa) 0) + max (wn - wc) 0) 2147483647 = R) := Lib.hid HR.out.symm
      go_wp2_with fail
      refine (CG.out _ HB4.out).mono ?_
      rintro e w5 ⟨hb5, ⟨hx, rfl⟩ | ⟨x, hx, rfl⟩⟩
      all_goals
        have HB5 := Lib.hid (HB4.out.trans (hb5.mono HB4.out.size))
        have HBE := Lib.hid (HB.out.trans (HB5.out.mono HB.out.size))
        have he := HVV.out
        rw [hx] at he
        simp only [Option.getD_none, Option.getD_some] at he
        clear hb5 hx
        rw [he] at CS
        go_wp2_with (first | (go_at_call 30; refine (CS.out _).mono ?_; rintro e w6 ⟨rfl, rfl⟩) | (go_at_call 27; refine (W3.out _).mono ?_; rintro e w7 ⟨rfl, rfl⟩))
        go_ret
        exact ⟨by rw [← HRR.out]; rfl, HBE.out⟩
    | true =>
      have q4 := q4 (max (wc - D) 0) (by omega) (by omega)
      have HRR : Hid (min (max (max (wc - D) 0) (max s 0 + max (wc - wa) 0) + max (wn - wc) 0) 2147483647 = R) := Lib.hid HR.out.symm
      go_wp2_with fail
      refine (CG.out _ HB4.out).mono ?_
      rintro e w5 ⟨hb5, ⟨hx, rfl⟩ | ⟨x, hx, rfl⟩⟩
      all_goals
        have HB5 := Lib.hid (HB4.out.trans (hb5.mono HB4.out.size))
        have HBE := Lib.hid (HB.out.trans (HB5.out.mono HB.out.size))
        have he := HVV.out
        rw [hx] at he
        simp only [Option.getD_none, Option.getD_some] at he
        clear hb5 hx
        rw [he] at CS
        go_wp2_with (first | (go_at_call 30; refine (CS.out _).mono ?_; rintro e w6 ⟨rfl, rfl⟩) | (go_at_call 27; refine (W3.out _).mono ?_; rintro e w7 ⟨rfl, rfl⟩))
        go_ret
        exact ⟨congrArg (fun x => Ending.returned (.int .i64 x)) (show min (max (wc - D) (max 0 (max s 0 + max (wc - wa) 0)) + max (wn - wc) 0) 2147483647 = R by have := HRR.out; omega), HBE.out⟩
end Go.Proofs.YtaimhfnddolilaaGreatDoor
namespace Go.Proofs.YtaimhfnddolilaaGreatDoor.VaryS
open CtrlS
open Go.RowKit HeadMath HeadS

/-- Each run of blanks is one space; p: a blank stands just ahead. -/
def oneB : Bool → List UInt8 → List UInt8
  | _, [] => []
  | p, c :: r => if blankB c then (if p then oneB true r else 32 :: oneB true r) else c :: oneB false r
end Go.Proofs.YtaimhfnddolilaaGreatDoor.VaryS
namespace Go.Proofs.YtaimhfnddolilaaGreatDoor
open Go.RowKit HeadMath HeadS CtrlS VaryS

abbrev Fls := List (ByteArray × ByteArray)
end Go.Proofs.YtaimhfnddolilaaGreatDoor
namespace Go.Proofs.YtaimhfnddolilaaGreatDoor.CtrlS
open Go.RowKit HeadMath HeadS

/-- The field's two cells, in the block that was just made. -/
theorem field_new (w : World) (n x : ByteArray) : ∀ j u, [Value.string n, Value.string x][j]? = some u → (w.alloc (.cells #[.string n, .string x] 43)).cell? ((⟨w.heap.size, 0, none⟩ : Addr).add j) = some u := by
  intro j u hj
  match j, hj with
  | 0, hj => injection hj with hj; subst hj; simp [go_sem, Addr.add]
  | 1, hj => injection hj with hj; subst hj; simp [go_sem, Addr.add]
theorem cell_lt {w : World} {p : Addr} {v : Value} (h : w.cell? p = some v) : p.block < w.heap.size := by
  rcases Nat.lt_or_ge p.block w.heap.size with h1 | h1
  · exact h1
  · simp [World.cell?, Array.getElem?_eq_none h1] at h
end Go.Proofs.YtaimhfnddolilaaGreatDoor.CtrlS
namespace Go.Proofs.YtaimhfnddolilaaGreatDoor
open Go.RowKit HeadMath HeadS CtrlS DateMath

set_option maxRecDepth 100000 in
set_option maxHeartbeats 4000000 in
theorem refDate_any (fs : Flf) (n : ByteArray) (a : Option Addr) (c : Nat) (w : World) (hin : FieldsIn w.heap.size w a fs) (hf : FewF fs) (hn : n.size ≤ 1000) :
    Calls Tryz.prog 25 #[.slice a fs.length c, .string n] w (DatePost n fs w) := by
  have cG := refGet_any fs n a c fs.length w hin rfl hf.small (by have := hf.1; omega) (by omega)
  have hV0 : textG n fs = (getF n fs).getD ⟨#[]⟩ := rfl
  have hz := textG_size hf n
  have hD1 : dateF n fs = ((readF (textG n fs).data.toList).1, (readF (textG n fs).data.toList).2 == 0) := rfl
  obtain ⟨V, hV⟩ : ∃ V, textG n fs = V := ⟨_, rfl⟩
  rw [hV] at hV0 hz hD1
  have CP := Lib.hid (fun x hx => refParseD_at (w := w) V (by omega) x hx)
  have hY0 : V = ⟨#[]⟩ → (readF V.data.toList).2 = 80 := fun h => by rw [h]; exact congrArg (·.2) read_nil
  obtain ⟨X, hX⟩ : ∃ X, (readF V.data.toList).1 = X := ⟨_, rfl⟩
  obtain ⟨Y, hY⟩ : ∃ Y, (readF V.data.toList).2 = Y := ⟨_, rfl⟩
  rw [hX, hY] at CP hD1
  rw [hY] at hY0
  unfold DatePost
  rw [hD1]
  have HV := Lib.hid hV0
  have HY0 := Lib.hid hY0
  have CG := Lib.hid cG
  unfold GetPost at CG
  obtain ⟨m, hm⟩ : ∃ m, fs.length = m := ⟨_, rfl⟩
  rw [hm] at CG ⊢
  clear cG hin hf hn hm hV0 hV hD1 hX hY hz hY0
  go_enter Tryz.func25, Tryz.ntmps25
  go_wp2_with fail
  refine CG.out.mono ?_
  rintro e w1 ⟨hb, ⟨hg, rfl⟩ | ⟨v, hv, rfl⟩⟩
  · have HB := Lib.hid hb
    have he : (⟨#[]⟩ : ByteArray) = V := by rw [HV.out, hg]; rfl
    have HE := Lib.hid he
    have hy := HY0.out he.symm
    clear hb hg he
    rw [HE.out]
    go_wp2_with fail
    refine (CP.out _ HB.out).mono ?_
    rintro e w2 ⟨rfl, hb2⟩
    have HB2 := Lib.hid hb2
    clear hb2
    subst hy
    go_wp2
    go_ret2
    exact ⟨rfl, HB2.out⟩
  · have HB := Lib.hid hb
    have he : v = V := by rw [HV.out, hv]; rfl
    clear hb hv
    subst he
    go_wp2_with fail
    refine (CP.out _ HB.out).mono ?_
    rintro e w2 ⟨rfl, hb2⟩
    have HB2 := Lib.hid hb2
    clear hb2
    go_wp2
    go_ret2
    exact ⟨rfl, HB2.out⟩
end Go.Proofs.YtaimhfnddolilaaGreatDoor
namespace Go.Proofs.YtaimhfnddolilaaGreatDoor
open Go.RowKit HeadMath HeadS CtrlS DateMath

set_option maxHeartbeats 4000000 in
theorem refClip_any (t : Int) (w : World) : Calls Tryz.prog 31 #[.int .i64 t] w fun e w' => e = .returned (.int .i64 (withinF t)) ∧ w' = w := by
  go_enter Tryz.func31, Tryz.ntmps31
  go_wp2
  go_ret
  simp [withinF]
set_option maxRecDepth 100000 in
set_option maxHeartbeats 8000000 in
theorem refAge_any (fs : Flf) (st asked came now : Int) (rs : ByteArray) (fa ba : Option Addr) (fc bn bc : Nat) (w : World) (hin : FieldsIn w.heap.size w fa fs) (hf : FewF fs) :
    Calls Tryz.prog 14 #[.agg #[.int .i64 st, .string rs, .slice fa fs.length fc, .slice ba bn bc], .agg #[.int .i64 asked, .int .i64 came], .int .i64 now] w (NumPost (ageF fs asked came now) w) := by
  obtain ⟨v, hv⟩ : ∃ v, (w.alloc (.cells #[.int .i64 st, .string rs, .slice fa fs.length fc, .slice ba bn bc] 25)).alloc (.cells #[.int .i64 asked, .int .i64 came] 27) = v := ⟨_, rfl⟩
  have hb : Below w.heap.size w v := by rw [← hv]; exact ((Below.refl _ _).alloc (Nat.le_refl _) _).alloc (by simp) _
  have hsz : v.heap.size = w.heap.size + 2 := by rw [← hv]; simp
  have c2 : v.cell? ⟨w.heap.size, 2, none⟩ = some (.slice fa fs.length fc) := by rw [← hv]; simp [go_sem]
  have t0 : v.cell? ⟨w.heap.size + 1, 0, none⟩ = some (.int .i64 asked) := by rw [← hv]; simp [go_sem]
  have t1 : v.cell? ⟨w.heap.size + 1, 1, none⟩ = some (.int .i64 came) := by rw [← hv]; simp [go_sem]
  have hin1 : FieldsIn v.heap.size v fa fs := kin_in (w := w) ⟨v, hb⟩ hin
  have cD : ∀ x, Below v.heap.size v x → Calls Tryz.prog 25 #[.slice fa fs.length fc, .string dateN] x (DatePost dateN fs x) := fun x hx => refDate_any fs dateN fa fc x (kin_in (w := v) ⟨x, hx⟩ hin1) hf (by decide)
  have cG := fun x (hx : Below v.heap.size v x) => refGet_any fs ageN fa fc fs.length x (kin_in (w := v) ⟨x, hx⟩ hin1) rfl hf.small (by have := hf.1; omega) (by decide)
  unfold GetPost at cG
  unfold DatePost at cD
  have hz := textG_size hf ageN
  have hbd := dateF_bd dateN fs
  have hV0 : textG ageN fs = (getF ageN fs).getD ⟨#[]⟩ := rfl
  obtain ⟨V, hV⟩ : ∃ V, textG ageN fs = V := ⟨_, rfl⟩
  have hR0 : ageF fs asked came now = min (max (if (dateF dateN fs).2 then max (withinF came - (dateF dateN fs).1) 0 else 0) (max (secF (textG ageN fs).data.toList) 0 + max (withinF came - withinF asked) 0) + max (withinF now - withinF came) 0) 2147483647 := rfl
  rw [hV] at hV0 hz hR0
  obtain ⟨D, hD⟩ : ∃ D, (dateF dateN fs).1 = D := ⟨_, rfl⟩
  obtain ⟨G, hG⟩ : ∃ G, (dateF dateN fs).2 = G := ⟨_, rfl⟩
  rw [hD, hG] at cD hR0
  rw [hD] at hbd
  have CD := Lib.hid cD
  have CG := Lib.hid cG
  have HVV := Lib.hid hV0
  have HV := Lib.hid hv
  have HB := Lib.hid hb
  obtain ⟨s, hs⟩ : ∃ s, secF V.data.toList = s := ⟨_, rfl⟩
  have hs0 : s ≤ 2147483647 := by rw [← hs]; exact (secF_in _).2
  have CS : Hid (∀ x, Calls Tryz.prog 32 #[.string V] x fun e w' => e = .returned (.int .i64 s) ∧ w' = x) := Lib.hid (fun x => by have h := CtrlS.refSeconds_any V x (by omega); unfold SecPost at h; rw [← hs]; exact h)
  obtain ⟨wa, hwa⟩ : ∃ a, withinF asked = a := ⟨_, rfl⟩
  obtain ⟨wc, hwc⟩ : ∃ a, withinF came = a := ⟨_, rfl⟩
  obtain ⟨wn, hwn⟩ : ∃ a, withinF now = a := ⟨_, rfl⟩
  have b1 := within_le asked
  have b2 := within_le came
  have b3 := within_le now
  have W1 : Hid (∀ x, Calls Tryz.prog 31 #[.int .i64 asked] x fun e w' => e = .returned (.int .i64 wa) ∧ w' = x) := Lib.hid (fun x => by rw [← hwa]; exact refClip_any asked x)
  have W2 : Hid (∀ x, Calls Tryz.prog 31 #[.int .i64 came] x fun e w' => e = .returned (.int .i64 wc) ∧ w' = x) := Lib.hid (fun x => by rw [← hwc]; exact refClip_any came x)
  have W3 : Hid (∀ x, Calls Tryz.prog 31 #[.int .i64 now] x fun e w' => e = .returned (.int .i64 wn) ∧ w' = x) := Lib.hid (fun x => by rw [← hwn]; exact refClip_any now x)
  rw [hs, hwa, hwc, hwn] at hR0
  obtain ⟨R, hR⟩ : ∃ R, ageF fs asked came now = R := ⟨_, rfl⟩
  rw [hR] at hR0 ⊢
  have HR := Lib.hid hR0
  rw [hwa] at b1
  rw [hwc] at b2
  rw [hwn] at b3
  unfold NumPost
  obtain ⟨fl, hfl⟩ : ∃ n, fs.length = n := ⟨_, rfl⟩
  rw [hfl] at CD CG c2 HV ⊢
  unfold dateN at CD
  unfold ageN at CG HVV
  clear cD cG hin hin1 hf hs hwa hwc hwn hb hv hV hV0 hR hR0 hD hG hfl hz
  go_enter Tryz.func14, Tryz.ntmps14
  go_wp2_with fail
  change Code.wp _ _ _ _ ((w.alloc (.cells #[.int .i64 st, .string rs, .slice fa fl fc, .slice ba bn bc] 25)).alloc (.cells #[.int .i64 asked, .int .i64 came] 27))
  rw [HV.out]
  have d0 : v.drew.cell? ⟨w.heap.size + 1, 0, none⟩ = some (.int .i64 asked) := t0
  have d1 : v.drew.cell? ⟨w.heap.size + 1, 1, none⟩ = some (.int .i64 came) := t1
  go_region_held3 (fun x => x.cell? ⟨w.heap.size + 1, 0, none⟩ = some (.int .i64 asked) ∧ x.cell? ⟨w.heap.size + 1, 1, none⟩ = some (.int .i64 came))
    (first | exact ⟨d0, d1⟩ | go_keep)
    (first
      | (go_simp
         go_at_call 31
         (with_reducible refine Calls.mono (W1.out _) ?_)
         rintro e wn ⟨rfl, rfl⟩)
      | (go_simp
         go_at_call 31
         (with_reducible refine Calls.mono (W2.out _) ?_)
         rintro e wn ⟨rfl, rfl⟩))
  all_goals
    have HD1 : Hid (Below v.heap.size v v.drew) := Lib.hid (Below.drew (Below.refl _ _))
    have c2d : v.drew.cell? ⟨w.heap.size, 2, none⟩ = some (.slice fa fl fc) := c2
    go_wp2_with fail
    refine (CD.out _ HD1.out).mono ?_
    rintro e w4 ⟨rfl, hb4⟩
    have HB4 := Lib.hid (HD1.out.trans (hb4.mono HD1.out.size))
    have c24 : w4.cell? ⟨w.heap.size, 2, none⟩ = some (.slice fa fl fc) := (HB4.out.cell (p := ⟨w.heap.size, 2, none⟩) (by show w.heap.size < v.heap.size; omega)).trans c2
    clear hb4
    have q0 : IntKind.i64.wrap (wc - D) = wc - D := by rw [IntKind.wrap_i64]; omega
    have q1 : IntKind.i64.wrap (wc - wa) = wc - wa := by rw [IntKind.wrap_i64]; omega
    have q2 : IntKind.i64.wrap (max s 0 + max (wc - wa) 0) = max s 0 + max (wc - wa) 0 := by rw [IntKind.wrap_i64]; omega
    have q3 : IntKind.i64.wrap (wn - wc) = wn - wc := by rw [IntKind.wrap_i64]; omega
    have q4 : ∀ y : Int, 0 ≤ y → y ≤ 253402300799 → IntKind.i64.wrap (max y (max s 0 + max (wc - wa) 0) + max (wn - wc) 0) = max y (max s 0 + max (wc - wa) 0) + max (wn - wc) 0 := by intro y hy hy'; rw [IntKind.wrap_i64]; omega
    cases G with
    | false =>
      have q4 := q4 0 (by omega) (by omega)
      have HRR : Hid (min (max 0 (max s 0 + max (wc - wa) 0) + max (wn - wc) 0) 2147483647 = R) := Lib.hid HR.out.symm
      go_wp2_with fail
      refine (CG.out _ HB4.out).mono ?_
      rintro e w5 ⟨hb5, ⟨hx, rfl⟩ | ⟨x, hx, rfl⟩⟩
      all_goals
        have HB5 := Lib.hid (HB4.out.trans (hb5.mono HB4.out.size))
        have HBE := Lib.hid (HB.out.trans (HB5.out.mono HB.out.size))
        have he := HVV.out
        rw [hx] at he
        simp only [Option.getD_none, Option.getD_some] at he
        clear hb5 hx
        rw [he] at CS
        go_wp2_with (first | (go_at_call 32; refine (CS.out _).mono ?_; rintro e w6 ⟨rfl, rfl⟩) | (go_at_call 31; refine (W3.out _).mono ?_; rintro e w7 ⟨rfl, rfl⟩))
        go_ret
        exact ⟨by rw [← HRR.out]; rfl, HBE.out⟩
    | true =>
      have q4 := q4 (max (wc - D) 0) (by omega) (by omega)
      have HRR : Hid (min (max (max (wc - D) 0) (max s 0 + max (wc - wa) 0) + max (wn - wc) 0) 2147483647 = R) := Lib.hid HR.out.symm
      go_wp2_with fail
      refine (CG.out _ HB4.out).mono ?_
      rintro e w5 ⟨hb5, ⟨hx, rfl⟩ | ⟨x, hx, rfl⟩⟩
      all_goals
        have HB5 := Lib.hid (HB4.out.trans (hb5.mono HB4.out.size))
        have HBE := Lib.hid (HB.out.trans (HB5.out.mono HB.out.size))
        have he := HVV.out
        rw [hx] at he
        simp only [Option.getD_none, Option.getD_some] at he
        clear hb5 hx
        rw [he] at CS
        go_wp2_with (first | (go_at_call 32; refine (CS.out _).mono ?_; rintro e w6 ⟨rfl, rfl⟩) | (go_at_call 31; refine (W3.out _).mono ?_; rintro e w7 ⟨rfl, rfl⟩))
        go_ret
        exact ⟨congrArg (fun x => Ending.returned (.int .i64 x)) (show min (max (wc - D) (max 0 (max s 0 + max (wc - wa) 0)) + max (wn - wc) 0) 2147483647 = R by have := HRR.out; omega), HBE.out⟩
end Go.Proofs.YtaimhfnddolilaaGreatDoor
namespace Go.Proofs.YtaimhfnddolilaaGreatDoor.CtrlS
open Go.RowKit Go.Deep
open Go.WideShapes Go.ChangeAt

set_option maxRecDepth 100000
theorem aggN_open {H : Type} {enc : TypeId × Value → H} {P : Program} {W : World} {t : TypeId} {fs : Array Field} {v : Value} {d : DataW H} {p : List MemPlace} {r : Reach} {b0 : Nat} (hs : P.underlying t = some (.struct fs)) (hone : oneCellFields P fs = true) (hC : P.cellsOf t = fs.size)
    (hv : Value.okWide P W r b0 t v) (h : DataW.Trod enc P W 0 (fun _ => true) true t v d p) :
    ∃ cs : Array Value, v = .agg cs ∧ cs.size = fs.size ∧ ∃ n, ∀ (j : Nat) (f : Field), fs[j]? = some f → ∃ u y, cs[j]? = some u ∧ DataW.trod enc P W 0 (fun _ => true) true n f.type [u] = some y := by
  obtain ⟨cs, rfl, hsz⟩ := okWide_struct hs hv
  obtain ⟨fuel, hf⟩ := h
  obtain ⟨ys, n', _, _, hl, hyl, hy⟩ := DataW.trod_struct hs hf
  refine ⟨cs, rfl, hsz.trans hC, n', fun j f hj => ?_⟩
  have hjl : j < fs.size := (Array.getElem?_eq_some_iff.1 hj).1
  have hcj : j < cs.size := by omega
  obtain ⟨h1, h2⟩ := hone_of hone j f hj
  have h3 := hy j f hj
  have e : (Value.agg cs).cells.toList = cs.toList := by simp [Value.cells]
  rw [e, h1, h2, List.drop_eq_getElem_cons (by simpa using hcj)] at h3
  refine ⟨cs[j], ys[j]'(by omega), Array.getElem?_eq_getElem _, ?_⟩
  rw [List.getElem?_eq_getElem (by omega)] at h3
  simpa using h3
theorem array12 {cs : Array Value} (h : cs.size = 12) : ∃ v0 v1 v2 v3 v4 v5 v6 v7 v8 v9 v10 v11, cs = #[v0, v1, v2, v3, v4, v5, v6, v7, v8, v9, v10, v11] := by
  obtain ⟨l⟩ := cs
  match l, h with
  | [v0, v1, v2, v3, v4, v5, v6, v7, v8, v9, v10, v11], _ => exact ⟨_, _, _, _, _, _, _, _, _, _, _, _, rfl⟩
section
variable {H : Type} {W : World} {enc : TypeId × Value → H}
theorem i64_wide {x : Int} (h : (Lit.int .i64 x).wf = true) : -9223372036854775808 ≤ x ∧ x ≤ 9223372036854775807 := by
  simp [Lit.wf] at h
  have e1 : IntKind.i64.min = -9223372036854775808 := by decide
  rw [e1] at h
  omega
theorem ctl_open {v : Value} {d : DataW H} {p : List MemPlace} {r : Reach} {b0 : Nat} (hv : Value.okWide Tryz.prog W r b0 29 v) (h : DataW.Trod enc Tryz.prog W 0 (fun _ => true) true 29 v d p) :
    ∃ c : Ctl, v = ctlV c ∧ c.wide := by
  obtain ⟨cs, rfl, hsz, n, hg⟩ := aggN_open Tryz.underlying29 (by kernel_rfl) (by kernel_rfl) hv h
  obtain ⟨v0, v1, v2, v3, v4, v5, v6, v7, v8, v9, v10, v11, rfl⟩ := array12 (hsz.trans rfl)
  obtain ⟨u, y, hu, ht⟩ := hg 0 _ rfl
  obtain rfl : v0 = u := by simpa using hu
  obtain ⟨z0, e0, _⟩ := DataW.trod_bool Tryz.underlying4 ht
  injection e0 with e0
  subst e0
  clear hu ht
  obtain ⟨u, y, hu, ht⟩ := hg 1 _ rfl
  obtain rfl : v1 = u := by simpa using hu
  obtain ⟨z1, e1, _⟩ := DataW.trod_bool Tryz.underlying4 ht
  injection e1 with e1
  subst e1
  clear hu ht
  obtain ⟨u, y, hu, ht⟩ := hg 2 _ rfl
  obtain rfl : v2 = u := by simpa using hu
  obtain ⟨z2, e2, _⟩ := DataW.trod_bool Tryz.underlying4 ht
  injection e2 with e2
  subst e2
  clear hu ht
  obtain ⟨u, y, hu, ht⟩ := hg 3 _ rfl
  obtain rfl : v3 = u := by simpa using hu
  obtain ⟨z3, e3, _⟩ := DataW.trod_bool Tryz.underlying4 ht
  injection e3 with e3
  subst e3
  clear hu ht
  obtain ⟨u, y, hu, ht⟩ := hg 4 _ rfl
  obtain rfl : v4 = u := by simpa using hu
  obtain ⟨z4, e4, _⟩ := DataW.trod_bool Tryz.underlying4 ht
  injection e4 with e4
  subst e4
  clear hu ht
  obtain ⟨u, y, hu, ht⟩ := hg 5 _ rfl
  obtain rfl : v5 = u := by simpa using hu
  obtain ⟨z5, e5, _⟩ := DataW.trod_bool Tryz.underlying4 ht
  injection e5 with e5
  subst e5
  clear hu ht
  obtain ⟨u, y, hu, ht⟩ := hg 6 _ rfl
  obtain rfl : v6 = u := by simpa using hu
  obtain ⟨z6, e6, _⟩ := DataW.trod_bool Tryz.underlying4 ht
  injection e6 with e6
  subst e6
  clear hu ht
  obtain ⟨u, y, hu, ht⟩ := hg 7 _ rfl
  obtain rfl : v7 = u := by simpa using hu
  obtain ⟨z7, e7, _⟩ := DataW.trod_bool Tryz.underlying4 ht
  injection e7 with e7
  subst e7
  clear hu ht
  obtain ⟨u, y, hu, ht⟩ := hg 8 _ rfl
  obtain rfl : v8 = u := by simpa using hu
  obtain ⟨z8, e8, _, w8⟩ := DataW.trod_int Tryz.underlying2 ht
  injection e8 with e8
  subst e8
  clear hu ht
  obtain ⟨u, y, hu, ht⟩ := hg 9 _ rfl
  obtain rfl : v9 = u := by simpa using hu
  obtain ⟨z9, e9, _, w9⟩ := DataW.trod_int Tryz.underlying2 ht
  injection e9 with e9
  subst e9
  clear hu ht
  obtain ⟨u, y, hu, ht⟩ := hg 10 _ rfl
  obtain rfl : v10 = u := by simpa using hu
  obtain ⟨z10, e10, _, w10⟩ := DataW.trod_int Tryz.underlying2 ht
  injection e10 with e10
  subst e10
  clear hu ht
  obtain ⟨u, y, hu, ht⟩ := hg 11 _ rfl
  obtain rfl : v11 = u := by simpa using hu
  obtain ⟨z11, e11, _, w11⟩ := DataW.trod_int Tryz.underlying2 ht
  injection e11 with e11
  subst e11
  clear hu ht
  exact ⟨⟨z0, z1, z2, z3, z4, z5, z6, z7, z8, z9, z10, z11⟩, rfl, i64_wide w8, i64_wide w9, i64_wide w10, i64_wide w11⟩
end
end Go.Proofs.YtaimhfnddolilaaGreatDoor.CtrlS
