/-
  Parts in any order, in one field or in many, say the same.
  What CtrlOrder's and CtrlCase's walks share: rows of texts and of fields in memory.
  A field's normal form: its values joined, each run of blanks one space; in the program.
  The names that Vary has, in the program: small letters, sorted, each once.
  vary.Names.
  policy.May's seven rules, each a closure over the request, the response, and what both say.
  Rows of CtrlCase: two rows of fields beside one another; a row of bytes whose letters are made great, one by one.
-/
import Derived.Deep.RegionHeld3
import Derived.Shelf.SlSortCmp.NoneTotal
import Derived.Test.YtgfinhkplijhbaaGreatDoorMg2
import Derived.Test.YtgfinhkplijhbaaGreatDoorMg4
import Derived.Test.YtgfinhkplijhbaaGreatDoorMg13
import Derived.Test.YtgfinhkplijhbaaGreatDoorMg18
import Derived.Test.YtgfinhkplijhbaaGreatDoorMg20
import Derived.Test.YtgfinhkplijhbaaGreatDoorMg22
import Derived.Test.YtgfinhkplijhbaaGreatDoorMg23
import Derived.Test.YtgfinhkplijhbaaGreatDoorMg24
namespace Go.Proofs.YtgfinhkplijhbaaGreatDoor.CtrlS
open Go.RowKit HeadMath HeadS

theorem least_comm {o a b : Int} (ha : 0 ≤ a) (hb : 0 ≤ b) : leastF (leastF o a) b = leastF (leastF o b) a := by
  unfold leastF
  repeat' split
  all_goals omega
/-- The four numbers and the eight flags, each by itself. -/
theorem act_comm {k k' : Nat} {h h' : Bool} {n n' : Int} (hn : 0 ≤ n) (hn' : 0 ≤ n') (c : Ctl) : actK k h n (actK k' h' n' c) = actK k' h' n' (actK k h n c) := by
  have L := @least_comm
  match k, k' with
  | 0, 0 | 0, 1 | 0, 2 | 0, 3 | 0, 4 | 0, 5 | 0, 6 | 0, 7 | 0, 8 | 0, 9 => rfl
  | 1, 0 | 1, 1 | 1, 2 | 1, 3 | 1, 4 | 1, 5 | 1, 6 | 1, 7 | 1, 8 | 1, 9 => rfl
  | 2, 0 | 2, 1 | 2, 2 | 2, 3 | 2, 4 | 2, 5 | 2, 6 | 2, 7 | 2, 8 | 2, 9 => rfl
  | 3, 0 | 3, 1 | 3, 2 | 3, 3 | 3, 4 | 3, 5 | 3, 6 | 3, 7 | 3, 8 | 3, 9 => rfl
  | 4, 0 | 4, 1 | 4, 2 | 4, 3 | 4, 4 | 4, 5 | 4, 6 | 4, 7 | 4, 8 | 4, 9 => rfl
  | 5, 0 | 5, 1 | 5, 2 | 5, 3 | 5, 4 | 5, 5 | 5, 6 | 5, 7 | 5, 8 | 5, 9 => rfl
  | 6, 0 | 6, 1 | 6, 2 | 6, 3 | 6, 4 | 6, 5 | 6, 6 | 6, 7 | 6, 8 | 6, 9 => rfl
  | 7, 0 | 7, 1 | 7, 2 | 7, 3 | 7, 4 | 7, 5 | 7, 6 | 7, 8 | 7, 9 => rfl
  | 8, 0 | 8, 1 | 8, 2 | 8, 3 | 8, 4 | 8, 5 | 8, 6 | 8, 7 | 8, 9 => rfl
  | 9, 0 | 9, 1 | 9, 2 | 9, 3 | 9, 4 | 9, 5 | 9, 6 | 9, 7 | 9, 8 => rfl
  | 7, 7 => simp only [actK]; rw [L hn' hn]
  | 8, 8 => simp only [actK]; rw [L hn' hn]
  | 9, 9 => simp only [actK]; rw [L hn' hn]
  | 10, 0 | 10, 1 | 10, 2 | 10, 3 | 10, 4 | 10, 5 | 10, 6 | 10, 7 | 10, 8 | 10, 9 => cases h <;> rfl
  | 0, 10 | 1, 10 | 2, 10 | 3, 10 | 4, 10 | 5, 10 | 6, 10 | 7, 10 | 8, 10 | 9, 10 => cases h' <;> rfl
  | 10, 10 =>
    cases h <;> cases h'
    · rfl
    · rfl
    · rfl
    · simp only [actK, if_true]; rw [L hn' hn]
  | k + 11, k' => rfl
  | k, k' + 11 => rfl
theorem say_comm (c : Ctl) (a b : ByteArray) : sayF (sayF c a) b = sayF (sayF c b) a := act_comm (valSec_in _).1 (valSec_in _).1 c
theorem fold_perm {l m : List ByteArray} (h : l.Perm m) : ctlL l = ctlL m := by
  unfold ctlL
  generalize ctl0 = c
  induction h generalizing c with
  | nil => rfl
  | cons x _ ih => exact ih _
  | swap x y l => show l.foldl sayF (sayF (sayF c y) x) = l.foldl sayF (sayF (sayF c x) y); rw [say_comm]
  | trans _ _ ih1 ih2 => exact (ih1 c).trans (ih2 c)
/-- A part that a list takes as it stands. -/
def PartC (x : ByteArray) : Prop := x.data.toList ≠ [] ∧ Closed x.data.toList ∧ Bare x.data.toList
theorem told_part {x : ByteArray} (h : PartC x) : told (arr x.data.toList) = [x] := by
  have e : arr x.data.toList = x := rfl
  rw [e]
  unfold told
  rw [if_neg]
  intro h0
  rw [← size_list] at h0
  exact h.1 (List.eq_nil_of_length_eq_zero h0)
/-- The parts behind the first, each with a space and a comma ahead. -/
def tailO : List ByteArray → List UInt8
  | [] => []
  | y :: r => [32, 44] ++ (y.data.toList ++ tailO r)
theorem parts_order : ∀ (r : List ByteArray) (x : ByteArray), PartC x → (∀ y ∈ r, PartC y) → partsF (arr (x.data.toList ++ tailO r)) = x :: r
  | [], x, hx, _ => by
    show partsF (arr (x.data.toList ++ [])) = _
    have ht := trimF_of (u := []) (x := x.data.toList) (v := []) (fun c h => by cases h) (fun c h => by cases h) hx.2.2
    rw [List.nil_append, List.append_nil] at ht
    rw [parts_step _ [] [] hx.2.1 (.inl ⟨rfl, rfl⟩), ht, told_part hx, partsF_nil (v := arr []) rfl]
    rfl
  | y :: r, x, hx, hr => by
    have ht := trimF_of (u := []) (x := x.data.toList) (v := [32]) (fun c h => by cases h) (by decide) hx.2.2
    rw [List.nil_append] at ht
    have hc : Closed (x.data.toList ++ [32]) := Closed.append hx.2.1 (plain_closed rfl)
    have e : x.data.toList ++ tailO (y :: r) = (x.data.toList ++ [32]) ++ 44 :: (y.data.toList ++ tailO r) := by simp [tailO]
    rw [e, parts_step _ _ _ hc (.inr rfl), ht, told_part hx, parts_order r y (hr y (by simp)) (fun z hz => hr z (by simp [hz]))]
    rfl
theorem parts_one {x : ByteArray} (h : PartC x) : partsF x = [x] := by
  have := parts_order [] x h (fun _ h => by cases h)
  rwa [show tailO [] = [] from rfl, List.append_nil] at this
/-- In many fields. -/
def fieldsO (n : ByteArray) (m : List ByteArray) : List (ByteArray × ByteArray) := m.map fun x => (n, x)
theorem parse_many {n : ByteArray} (hn : sameF n.data.toList cacheN.data.toList = true) {m : List ByteArray} (h : ∀ y ∈ m, PartC y) : parseF (fieldsO n m) = ctlL m := by
  have ha : allF cacheN (fieldsO n m) = m := by
    unfold allF fieldsO
    rw [List.filter_eq_self.2 (by
      intro f hf
      obtain ⟨x, _, rfl⟩ := List.mem_map.1 hf
      exact hn), List.map_map]
    exact List.map_id m
  have hl : listF cacheN (fieldsO n m) = m := by
    unfold listF
    rw [ha]
    clear ha
    induction m with
    | nil => rfl
    | cons x m ih => rw [List.flatMap_cons, parts_one (h x (by simp)), ih (fun y hy => h y (by simp [hy]))]; rfl
  unfold parseF
  rw [ha, hl]
  split
  · rename_i h0
    subst h0
    rfl
  · rfl
end Go.Proofs.YtgfinhkplijhbaaGreatDoor.CtrlS
namespace Go.Proofs.YtgfinhkplijhbaaGreatDoor.CtrlS
open Go.RowKit HeadMath HeadS

/-- The slice that starts at a reads as the numbers l. -/
def U16At (w : World) (a : Option Addr) (l : List Nat) : Prop :=
  ∀ k (h : k < l.length), ∃ b off, a = some ⟨b, off, none⟩ ∧ b < w.heap.size ∧ w.cell? ⟨b, off + k, none⟩ = some (.int .u16 l[k])
theorem U16At.below {w w' : World} {a : Option Addr} {l : List Nat} (h : U16At w a l) (hb : Below w.heap.size w w') : U16At w' a l := by
  intro k hk
  obtain ⟨b, off, h1, h2, h3⟩ := h k hk
  exact ⟨b, off, h1, Nat.lt_of_lt_of_le h2 hb.size, (hb.cell (p := ⟨b, off + k, none⟩) h2).trans h3⟩
set_option maxRecDepth 100000 in
theorem infoField : ∃ i, Tryz.prog.info? 48 = some i ∧ i.zero = some (.agg #[.string ⟨#[]⟩, .string ⟨#[]⟩]) ∧ i.size = 2 ∧ i.bytes = 32 := ⟨_, rfl, by kernel_rfl, by kernel_rfl, by kernel_rfl⟩
theorem fields_snoc (n : ByteArray) (l : List ByteArray) (y : ByteArray) : fieldCells (fieldsO n (l ++ [y])) = fieldCells (fieldsO n l) ++ [.string n, .string y] := by simp [fieldCells, fieldsO]
theorem own_in {B : Nat} {w : World} {v : Value} {l : List ByteArray} (h : OwnStrs B w v l) : ∃ a n c, v = .slice a n c ∧ n = l.length ∧ StrsIn w.heap.size w a l := by
  by_cases h0 : l = []
  · subst h0
    obtain ⟨a, c, rfl, _⟩ := own_form (n := 0) h rfl
    exact ⟨a, 0, c, rfl, rfl, fun j hj => absurd hj (Nat.not_lt_zero _)⟩
  · obtain ⟨g, cap, rfl, h1, h2⟩ := World.ownsRow.form h (List.length_pos_iff.2 h0)
    refine ⟨_, _, cap, rfl, rfl, fun j hj => ⟨g, 0, rfl, h2, ?_⟩⟩
    have := h.cells (g := g) rfl j _ (strCells_at hj)
    have e : (⟨g, 0, none⟩ : Addr).add j = ⟨g, j, none⟩ := by unfold Addr.add; by_cases h0 : j = 0 <;> simp [h0]
    rw [e] at this
    rw [Nat.zero_add]
    exact this
theorem kin_in {w : World} {a : Option Addr} {l : List (ByteArray × ByteArray)} (y : Kin w) (h : FieldsIn w.heap.size w a l) : FieldsIn y.wd.heap.size y.wd a l := fun j hj => by
  obtain ⟨b, off, h1, h2, h3, h4⟩ := h j hj
  exact ⟨b, off, h1, Nat.lt_of_lt_of_le h2 y.below.size, (y.below.cell (p := ⟨b, off + j * 2, none⟩) h2).trans h3, (y.below.cell (p := ⟨b, off + j * 2 + 1, none⟩) h2).trans h4⟩
theorem few_fields {n : ByteArray} {l : List ByteArray} (hn : n.size ≤ 1000000) (hl : l.length ≤ 100000) (h : ∀ x ∈ l, x.size ≤ 1000000) : FewF (fieldsO n l) := by
  refine ⟨by unfold fieldsO; rw [List.length_map]; exact hl, fun j hj => ?_⟩
  have hj' : j < l.length := by unfold fieldsO at hj; rwa [List.length_map] at hj
  have e : (fieldsO n l)[j] = (n, l[j]) := List.getElem_map (fun x => (n, x))
  rw [e]
  exact ⟨hn, h _ (List.getElem_mem hj')⟩
end Go.Proofs.YtgfinhkplijhbaaGreatDoor.CtrlS
namespace Go.Proofs.YtgfinhkplijhbaaGreatDoor.VaryS
open CtrlS
open Go.RowKit HeadMath HeadS

/-- Each run of blanks is one space; p: a blank stands just ahead. -/
def oneB : Bool → List UInt8 → List UInt8
  | _, [] => []
  | p, c :: r => if blankB c then (if p then oneB true r else 32 :: oneB true r) else c :: oneB false r
end Go.Proofs.YtgfinhkplijhbaaGreatDoor.VaryS
namespace Go.Proofs.YtgfinhkplijhbaaGreatDoor.VaryS
open CtrlS
open Go.RowKit HeadMath HeadS VaryMath Go.Sort

def varyN : ByteArray := ⟨#[86, 97, 114, 121]⟩
def starP (l : List ByteArray) : Bool := l.any fun x => x.data.toList == [42]
def lowL (l : List ByteArray) : List Bs := l.map fun x => lowF x.data.toList
def arrB (l : Bs) : ByteArray := ⟨l.toArray⟩
def varyL (l : List ByteArray) : List ByteArray := if starP l then [] else (onceL (lowL l)).map arrB
def NamesPost (l : List ByteArray) (w : World) (e : Ending) (w' : World) : Prop :=
  ∃ a c, e = .returned (.tuple #[.slice a (varyL l).length c, .bool (starP l)]) ∧ StrsIn w'.heap.size w' a (varyL l) ∧ Below w.heap.size w w'
theorem star_hit {l : List ByteArray} {k : Nat} (hk : k < l.length) (h : (l[k].data.toList == [42]) = true) : starP l = true := List.any_eq_true.2 ⟨l[k], List.getElem_mem hk, h⟩
theorem star_miss {l : List ByteArray} (h : ∀ j (hj : j < l.length), (l[j].data.toList == [42]) = false) : starP l = false := by
  unfold starP
  rw [List.any_eq_false]
  intro x hx
  obtain ⟨j, hj, rfl⟩ := List.getElem_of_mem hx
  rw [h j hj]
  simp
theorem names_len (l : List ByteArray) : (varyL l).length ≤ l.length := by
  unfold varyL
  split
  · exact Nat.zero_le _
  · rw [List.length_map]
    have := once_len (lowL l)
    unfold lowL at this ⊢
    rwa [List.length_map] at this
theorem mapBlock_spares (w : World) (blk : Nat) (f : Array Value → Array Value) : Spares (fun b => b = blk) w (mapBlock w blk f) :=
  ⟨rfl, rfl, rfl, by unfold mapBlock; simp, fun k _ hn => by
    unfold mapBlock
    show (w.heap.modify blk (onCells f))[k]? = _
    rw [Array.getElem?_modify]
    split
    · rename_i e; exact absurd e.symm hn
    · rfl⟩
theorem ahead_spares (F : Nat → Prop) (w : World) (n : Nat) : Spares F w (Sort.ahead w n) := ⟨rfl, rfl, rfl, Nat.le_refl _, fun _ _ _ => rfl⟩
theorem grow_spares (F : Nat → Prop) (w : World) (os : Array Obj) : Spares F w (grow w os) :=
  ⟨rfl, rfl, rfl, by unfold grow; simp, fun k hk _ => by
    show (w.heap ++ os)[k]? = _
    rw [Array.getElem?_append_left hk]⟩
theorem putRow_spares {α : Type} [Inhabited α] (enc : α → Value) (w : World) (blk off n : Nat) (d : Array α) : Spares (fun b => b = blk) w (putRow enc (Sort.ahead w n) blk off d) :=
  (ahead_spares _ w n).trans (mapBlock_spares _ blk _)
theorem sortWorld_spares {α : Type} [Inhabited α] (enc : α → Value) (w : World) (blk off n : Nat) (d : Array α) (os : Array Obj) : Spares (fun b => b = blk) w (sortWorld enc w blk off n d os) :=
  (putRow_spares enc w blk off n d).trans (grow_spares _ _ os)
theorem names_closure (x y : Bs) (W : World) : Calls Tryz.prog 56 #[encStr x, encStr y] W fun e w' => e = .returned (.int .i64 (Lib.compareBytes x y)) ∧ ∃ q, w' = W.drewN q := by
  have hcon := Tryz.strings_Compare ⟨x.toArray⟩ ⟨y.toArray⟩ W
  have e1 : (⟨x.toArray⟩ : ByteArray).data.toList = x := by simp
  have e2 : (⟨y.toArray⟩ : ByteArray).data.toList = y := by simp
  rw [e1, e2] at hcon
  clear e1 e2
  show Calls _ _ #[.string ⟨x.toArray⟩, .string ⟨y.toArray⟩] _ _
  obtain ⟨s, hs⟩ : ∃ s : ByteArray, (⟨x.toArray⟩ : ByteArray) = s := ⟨_, rfl⟩
  obtain ⟨t, ht⟩ : ∃ t : ByteArray, (⟨y.toArray⟩ : ByteArray) = t := ⟨_, rfl⟩
  rw [hs, ht] at hcon
  rw [hs, ht]
  generalize Lib.compareBytes x y = r at hcon ⊢
  have HC := Lib.hid hcon
  clear hcon hs ht
  go_enter Tryz.func56, Tryz.ntmps56
  go_wp2_with fail
  refine HC.out.mono ?_
  rintro e w' ⟨rfl, rfl⟩
  go_wp2
  go_ret
  exact ⟨rfl, 0, rfl⟩
/-- slices.SortFunc of an own row of texts. -/
theorem sort_any (g c : Nat) (d : List Bs) (w : World) (hH : Holds encStr w g 0 d.toArray) (hg : g < w.heap.size) (hl : d.length ≤ 1000000000000) :
    Calls Tryz.prog 55 #[.slice (some ⟨g, 0, none⟩) d.length c, .func (.func 56) #[] #[]] w fun e w' =>
      e = .returned (.tuple #[]) ∧ ∃ n os, w' = sortWorld encStr w g 0 n (d.mergeSort leB).toArray os := by
  have eg : ∀ args w, (callFunc 56 args).run Tryz.prog w = .ok (.enter 56 args) w := enters_of Tryz.func56 (by kernel_rfl) rfl
  have hr : CmpReads Tryz.prog 56 #[] encStr Lib.compareBytes g 0 d.toArray.size w := fun _ _ _ _ x y => names_closure x y _
  have hcon := Any.slices_SortFunc_total Tryz.laySortFunc encStr (fun _ => rfl) Lib.compareBytes swo 56 #[] g 0 c d.toArray w eg hr.lays hH hg (by simp; omega) total
  change Calls Tryz.prog 55 _ _ _ at hcon
  have e : d.toArray.size = d.length := by simp
  rw [e] at hcon
  exact hcon
/-- slices.Compact of the same row. -/
theorem compact_any (g c : Nat) (d : List Bs) (w : World) (hH : Holds encStr w g 0 d.toArray) (hl : d.length ≤ 1000000000000) (hc : d.length ≤ c) :
    Calls Tryz.prog 58 #[.slice (some ⟨g, 0, none⟩) d.length c] w fun e w' =>
      e = .returned (.slice (some ⟨g, 0, none⟩) (Lib.compact d).length c) ∧ ∃ q, w' = putRow encStr (Sort.ahead w q) g 0 (Lib.compact d ++ List.replicate (d.length - (Lib.compact d).length) []).toArray := by
  have hcon := Any.slices_Compact_string Tryz.layCompact g 0 c d w hH (by omega) hc
  change Calls Tryz.prog 58 _ _ _ at hcon
  exact hcon
theorem own_holds {B g c n : Nat} {w : World} {l : List ByteArray} (hn : n = l.length) (h : w.ownsRow B 9 1 (.slice (some ⟨g, 0, none⟩) n c) n (strCells l)) : Holds encStr w g 0 (l.map (·.data.toList)).toArray := by
  subst hn
  intro j hj
  have hj' : j < l.length := by simpa using hj
  have h1 := h.cells (g := g) rfl j _ (strCells_at hj')
  have e : (⟨g, 0, none⟩ : Addr).add j = ⟨g, j, none⟩ := by unfold Addr.add; by_cases h0 : j = 0 <;> simp [h0]
  rw [e] at h1
  refine ⟨?_, ?_⟩
  · rw [Nat.zero_add, h1, getElem!_pos _ j hj]
    simp [encStr]
  · rw [Nat.zero_add]
    exact World.ownsRow.frozenAt h j
end Go.Proofs.YtgfinhkplijhbaaGreatDoor.VaryS
namespace Go.Proofs.YtgfinhkplijhbaaGreatDoor.VaryS
open CtrlS
open Go.RowKit HeadMath HeadS VaryMath Go.Sort

def lowA (l : List ByteArray) : List ByteArray := l.map fun x => arrB (lowF x.data.toList)
theorem lowA_list (l : List ByteArray) : (lowA l).map (·.data.toList) = lowL l := by
  unfold lowA lowL
  rw [List.map_map]
  exact List.map_congr_left fun x _ => by simp [arrB]
theorem lowA_take (l : List ByteArray) (k : Nat) (h : k < l.length) : lowA (l.take (k + 1)) = lowA (l.take k) ++ [arrB (lowF l[k].data.toList)] := by
  unfold lowA
  rw [List.take_succ_eq_append_getElem h, List.map_append]
  rfl
theorem compact_len_le (d : List Bs) : (Lib.compact d).length ≤ d.length := by
  unfold Lib.compact Lib.compactUpTo
  rw [List.length_map]
  exact Nat.le_trans (List.length_filter_le _ _) (by simp)
/-- What slices.Compact leaves in the row. -/
theorem compact_cells {w : World} {g q : Nat} {d : List Bs} (hH : Holds encStr w g 0 d.toArray) :
    ∀ j (h : j < (Lib.compact d).length), (putRow encStr (Sort.ahead w q) g 0 (Lib.compact d ++ List.replicate (d.length - (Lib.compact d).length) []).toArray).cell? ⟨g, 0 + j, none⟩ = some (.string (arrB (Lib.compact d)[j])) := by
  intro j h
  have hle := compact_len_le d
  have hs : (Lib.compact d ++ List.replicate (d.length - (Lib.compact d).length) []).toArray.size = d.toArray.size := by simp; omega
  have := cell?_putRow encStr (Sort.ahead w q) g 0 d.toArray (Lib.compact d ++ List.replicate (d.length - (Lib.compact d).length) []).toArray (holds_ahead _ _ _ _ _ _ hH) hs j (by rw [hs]; simp; omega)
  rw [this, getElem!_pos _ j (by rw [hs]; simp; omega)]
  simp only [List.getElem_toArray]
  rw [List.getElem_append_left h]
  rfl
set_option maxRecDepth 100000 in
set_option maxHeartbeats 16000000 in
theorem names_any (fs : List (ByteArray × ByteArray)) (st : Int) (rs : ByteArray) (fa ba : Option Addr) (fc bn bc : Nat) (w : World) (hin : FieldsIn w.heap.size w fa fs) (hf : FewF fs) :
    Calls Tryz.prog 34 #[.agg #[.int .i64 st, .string rs, .slice fa fs.length fc, .slice ba bn bc]] w (NamesPost (listF varyN fs) w) := by
  obtain ⟨w0, hw0⟩ : ∃ w0, w.alloc (.cells #[.int .i64 st, .string rs, .slice fa fs.length fc, .slice ba bn bc] 27) = w0 := ⟨_, rfl⟩
  have hb0 : Below w.heap.size w w0 := by rw [← hw0]; exact (Below.refl _ _).alloc (Nat.le_refl _) _
  have hc0 : w0.cell? ⟨w.heap.size, 2, none⟩ = some (.slice fa fs.length fc) := by
    rw [← hw0, Lib.cell_of_heap (heap_alloc_new w _)]
    rfl
  have cL := (list_any fs varyN fa fc w0 (kin_in (w := w) ⟨w0, hb0⟩ hin) hf.small (by have := hf.1; omega) (fun j hj => (hf.2 j hj).2) (by decide)).mono fun _ _ h => row_b h
  unfold RowB at cL
  have hll := list_len hf varyN
  have hsz := list_size hf varyN
  obtain ⟨r, hr⟩ : ∃ r, listF varyN fs = r := ⟨_, rfl⟩
  rw [hr] at cL hll hsz ⊢
  have CL := Lib.hid cL
  have HW0 := Lib.hid hw0
  have HB0 := Lib.hid hb0
  have HSZ := Lib.hid hsz
  clear cL hw0 hb0 hin hf hr hsz
  unfold NamesPost
  go_enter Tryz.func34, Tryz.ntmps34
  go_wp2_with fail
  change Calls _ _ _ (w.alloc (.cells #[.int .i64 st, .string rs, .slice fa fs.length fc, .slice ba bn bc] 27)) _
  rw [HW0.out]
  refine CL.out.mono ?_
  rintro e w1 ⟨a1, c1, rfl, hrow, hb1⟩
  have HROW := Lib.hid hrow
  have HB1 := Lib.hid (HB0.out.trans (hb1.mono HB0.out.size))
  clear hrow hb1 hc0
  go_wp2
  go_loopw [4, 11] (fun v i wr => ∃ (k : Nat) (v0 : Value), k ≤ r.length ∧ i = .int .i64 k ∧ v0 = v ∧ Hid (OwnStrs w1.heap.size wr v0 (lowA (r.take k))) ∧ Hid (∀ j (hj : j < r.length), j < k → (r[j].data.toList == [42]) = false) ∧ Hid (Below w1.heap.size w1 wr)) (fun _ i _ => r.length - (intOf i).toNat)
  case atStart => exact ⟨0, _, Nat.zero_le _, rfl, rfl, Lib.hid (World.ownsRow_nil _ _ _ _), Lib.hid (fun _ _ h => absurd h (Nat.not_lt_zero _)), Lib.hid (Below.refl _ _)⟩
  case round =>
    obtain ⟨k, v0, hk, rfl, rfl, HO, HN, HB⟩ := hrel
    by_cases hkl : k < r.length
    · obtain ⟨b, rfl, _, hbl, hc1⟩ := HROW.out k hkl
      have x0 := (HB.out.cell (p := ⟨b, k, none⟩) hbl).trans hc1
      have hz := HSZ.out _ (List.getElem_mem hkl)
      have HTK := Lib.hid (lowA_take r k hkl)
      have HST := Lib.hid (fun h => star_hit hkl h)
      have HNX : Hid ((r[k].data.toList == [42]) = false → ∀ j (hj : j < r.length), j < k + 1 → (r[j].data.toList == [42]) = false) := Lib.hid (fun h j hj hjk => by
        rcases Nat.lt_or_ge j k with h1 | h1
        · exact HN.out j hj h1
        · obtain rfl : j = k := by omega
          exact h)
      have hlow : lowF r[k].data.toList = lowF r[k].data.toList := rfl
      obtain ⟨x, hx⟩ : ∃ x, r[k] = x := ⟨_, rfl⟩
      rw [hx] at x0 hz HTK HST HNX
      clear hx hc1 hbl hlow
      have hlen : (lowA (r.take k)).length + 1 ≤ 1000000000000 := by unfold lowA; rw [List.length_map, List.length_take]; omega
      cases hs : x.data.toList == [42] with
      | true =>
        have HS := Lib.hid (HST.out hs)
        have g1 : (x.toList == [42]) = true := by rw [Lib.toList_data]; exact hs
        have HF := Lib.hid (HB1.out.trans (HB.out.mono HB1.out.size))
        clear hs hlen
        go_wp2
        go_ret2
        have e : varyL r = [] := by unfold varyL; rw [if_pos HS.out]
        refine ⟨none, 0, ?_, ?_, HF.out⟩
        · rw [HS.out, e]; rfl
        · rw [e]; exact fun j hj => absurd hj (Nat.not_lt_zero _)
      | false =>
        have HNX2 := Lib.hid (HNX.out hs)
        have g1 : (x.toList == [42]) = false := by rw [Lib.toList_data]; exact hs
        have cW := fun w => NormS.lower_any x w (by omega)
        obtain ⟨y, hy⟩ : ∃ y : ByteArray, (⟨(lowF x.data.toList).toArray⟩ : ByteArray) = y := ⟨_, rfl⟩
        have HY : Hid (arrB (lowF x.data.toList) = y) := Lib.hid hy
        simp only [hy] at cW
        have CW := Lib.hid cW
        obtain ⟨L, hL⟩ : ∃ L, lowA (r.take k) = L := ⟨_, rfl⟩
        rw [hL] at HO HTK hlen
        clear hs hy cW hL
        go_wp2_with fail
        refine (CW.out _).mono ?_
        rintro e w2 ⟨rfl, hb2⟩
        have hO2 : OwnStrs w1.heap.size w2 v0 L := (Below.spares (F := nowhere) hb2 (fun k hk => .inr hk)).own HO.out (fun _ _ h => h)
        have HOW : Hid (OwnStrs w1.heap.size (w2.alloc (.cells #[.string y] 9)) v0 L) := Lib.hid (World.ownsRow.alloc hO2 _)
        have hbw : Below w1.heap.size w1 w2 := HB.out.trans (hb2.mono HB.out.size)
        have HBW := Lib.hid (hbw.alloc hbw.size (.cells #[.string y] 9))
        have HSB := Lib.hid HBW.out.size
        have HS1 := Lib.hid (one_str w2 y)
        clear hb2 hO2 hbw
        go_wp2_with ((with_reducible show wpList _ _ _ (⟨some 21, _, _, _, _, _⟩ :: _) _ _); refine wpList_append_strs rfl _ _ rfl w1.heap.size (w2.heap.size + 1) v0 L rfl HOW.out HSB.out (some ⟨w2.heap.size, 0, none⟩) 1 1 [y] rfl rfl HS1.out (fun e => by cases e) hlen ?_; intro v4 w4 ho hg; have HO4 := Lib.hid ho; have HB4 := Lib.hid (HBW.out.grown hg HSB.out (fun g h => (World.ownsRow.lt HOW.out g h).1)); clear ho hg)
        go_roundw
        case rel => exact ⟨k + 1, _, by omega, by go_num, rfl, Lib.hid (by rw [HTK.out, HY.out]; exact HO4.out), HNX2, HB4⟩
        case measure => simp [intOf]; omega
    · have hstar : starP r = false := star_miss (fun j hj => HN.out j hj (by omega))
      have hO : OwnStrs w1.heap.size wr v0 (lowA r) := by have := HO.out; rwa [List.take_of_length_le (by omega)] at this
      have hnl : varyL r = (onceL (lowL r)).map arrB := by unfold varyL; rw [if_neg (by rw [hstar]; simp)]
      have hal : (lowA r).length = r.length := by unfold lowA; rw [List.length_map]
      have HF := Lib.hid (HB1.out.trans (HB.out.mono HB1.out.size))
      by_cases h0 : r.length = 0
      · have hr0 : r = [] := List.eq_nil_of_length_eq_zero h0
        obtain ⟨av, cv, rfl, _⟩ := own_form (n := 0) hO (by rw [hal, h0])
        have e : varyL r = [] := by rw [hnl, hr0]; rfl
        have HE := Lib.hid e
        have HSTAR := Lib.hid hstar
        have cS : Calls Tryz.prog 55 #[.slice av 0 cv, .func (.func 56) #[] #[]] wr fun e w' => e = .returned (.tuple #[]) ∧ w' = wr := by
          have := AnyF.slices_SortFunc_none (P := Tryz.prog) (ρ := Tryz.laySortFunc_ren) { Tryz.laySortFunc with } av cv (.func (.func 56) #[] #[]) wr
          change Calls Tryz.prog 55 _ _ _ at this
          exact this
        have cC : Calls Tryz.prog 58 #[.slice av 0 cv] wr fun e w' => e = .returned (.slice av 0 cv) ∧ w' = wr := by
          have := Any.slices_Compact_string_empty Tryz.layCompact av cv wr
          change Calls Tryz.prog 58 _ _ _ at this
          exact this
        have CS := Lib.hid cS
        have CC := Lib.hid cC
        clear hstar hO hnl hal h0 hr0 e cS cC hk
        go_wp2_with fail
        refine CS.out.mono ?_
        rintro e w5 ⟨rfl, hw5⟩
        replace hw5 := hw5.symm
        subst hw5
        go_wp2_with fail
        refine CC.out.mono ?_
        rintro e w6 ⟨rfl, hw6⟩
        replace hw6 := hw6.symm
        subst hw6
        go_wp2
        go_ret2
        exact ⟨av, cv, by rw [HSTAR.out, HE.out]; rfl, by rw [HE.out]; exact fun j hj => absurd hj (Nat.not_lt_zero _), HF.out⟩
      · have hnn := names_len r
        have HSTAR := Lib.hid hstar
        rcases hO.2 with ⟨_, h1⟩ | ⟨g, c, cur, rfl, hBg, hg, hcap, _⟩
        · rw [hal] at h1
          exact absurd h1 h0
        · have hgl : g < wr.heap.size := (Array.getElem?_eq_some_iff.1 hg).1
          have hH : Holds encStr wr g 0 (lowL r).toArray := by
            have := own_holds (n := (lowA r).length) rfl hO
            rwa [lowA_list] at this
          have hDl : (lowL r).length = r.length := by unfold lowL; rw [List.length_map]
          have hSl : ((lowL r).mergeSort leB).length = r.length := by rw [List.length_mergeSort, hDl]
          rw [hal] at hcap
          have HSORT : Hid (Calls Tryz.prog 55 #[.slice (some ⟨g, 0, none⟩) r.length c, .func (.func 56) #[] #[]] wr fun e w5 => e = .returned (.tuple #[]) ∧ Hid (Holds encStr w5 g 0 ((lowL r).mergeSort leB).toArray ∧ Spares (fun b => b = g) wr w5)) := Lib.hid (by
            have := sort_any g c (lowL r) wr hH hgl (by omega)
            rw [hDl] at this
            refine this.mono ?_
            rintro e w5 ⟨he, n, os, rfl⟩
            exact ⟨he, Lib.hid ⟨holds_sortWorld encStr wr g 0 n (lowL r).toArray _ os hgl hH (by simp), sortWorld_spares encStr wr g 0 n _ os⟩⟩)
          have HCOMP : Hid (∀ w5, Holds encStr w5 g 0 ((lowL r).mergeSort leB).toArray → g < w5.heap.size → Calls Tryz.prog 58 #[.slice (some ⟨g, 0, none⟩) r.length c] w5 fun e w6 => e = .returned (.slice (some ⟨g, 0, none⟩) (varyL r).length c) ∧ Hid (StrsIn w6.heap.size w6 (some ⟨g, 0, none⟩) (varyL r) ∧ Spares (fun b => b = g) w5 w6)) := Lib.hid (fun w5 h5 hg5 => by
            have := compact_any g c ((lowL r).mergeSort leB) w5 h5 (by omega) (by omega)
            rw [hSl] at this
            refine this.mono ?_
            rintro e w6 ⟨rfl, q, rfl⟩
            have hcm : Lib.compact ((lowL r).mergeSort leB) = onceL (lowL r) := compact_sorted _
            have hsp := putRow_spares encStr w5 g 0 q (Lib.compact ((lowL r).mergeSort leB) ++ List.replicate (r.length - (Lib.compact ((lowL r).mergeSort leB)).length) []).toArray
            refine ⟨by rw [hcm, hnl, List.length_map], Lib.hid ⟨fun j hj => ⟨g, 0, rfl, Nat.lt_of_lt_of_le hg5 hsp.size, ?_⟩, hsp⟩⟩
            have hj' : j < (Lib.compact ((lowL r).mergeSort leB)).length := by rw [hcm]; rw [hnl, List.length_map] at hj; exact hj
            have := compact_cells (q := q) h5 j hj'
            rw [hSl] at this
            rw [this]
            congr 2
            simp only [hnl, hcm, List.getElem_map])
          have HG : Hid (w1.heap.size ≤ g ∧ g < wr.heap.size) := Lib.hid ⟨hBg, hgl⟩
          clear hO hg hcap hH hDl hSl hnl hstar hBg hgl h0 hk
          rw [hal]
          clear hal
          go_wp2_with fail
          refine HSORT.out.mono ?_
          rintro e w5 ⟨rfl, H5⟩
          have HC5 := Lib.hid (HCOMP.out w5 H5.out.1 (Nat.lt_of_lt_of_le HG.out.2 H5.out.2.size))
          go_wp2_with fail
          refine HC5.out.mono ?_
          rintro e w6 ⟨rfl, H6⟩
          have HFF : Hid (Below w.heap.size w w6) := Lib.hid (HF.out.trans ((H5.out.2.trans H6.out.2).below HF.out.size (fun k hk e => by have := HG.out.1; have := HB1.out.size; omega)))
          go_wp2
          go_ret2
          exact ⟨some ⟨g, 0, none⟩, c, by rw [HSTAR.out]; rfl, H6.out.1, HFF.out⟩
end Go.Proofs.YtgfinhkplijhbaaGreatDoor.VaryS
namespace Go.Proofs.YtgfinhkplijhbaaGreatDoor
open Go.RowKit HeadMath HeadS CtrlS VaryS

abbrev Fls := List (ByteArray × ByteArray)
/-- A message's block: three of its cells are read. -/
def ReqAt (w : World) (p : Nat) (m tg : ByteArray) (fa : Option Addr) (fn fc : Nat) (ba : Option Addr) (bn bc : Nat) : Prop := w.heap[p]? = some (.cells #[.string m, .string tg, .slice fa fn fc, .slice ba bn bc] 25 (0, 0))
def RespAt (w : World) (p : Nat) (st : Int) (rs : ByteArray) (fa : Option Addr) (fn fc : Nat) (ba : Option Addr) (bn bc : Nat) : Prop := w.heap[p]? = some (.cells #[.int .i64 st, .string rs, .slice fa fn fc, .slice ba bn bc] 27 (0, 0))
def authN : ByteArray := ⟨#[65, 117, 116, 104, 111, 114, 105, 122, 97, 116, 105, 111, 110]⟩
def expN : ByteArray := ⟨#[69, 120, 112, 105, 114, 101, 115]⟩
def RulePost (b : Bool) (w : World) (e : Ending) (w' : World) : Prop := e = .returned (.bool b) ∧ Below w.heap.size w w'
set_option maxRecDepth 100000 in
set_option maxHeartbeats 4000000 in
theorem has_any (fs : Fls) (n : ByteArray) (a : Option Addr) (c : Nat) (w : World) (hin : FieldsIn w.heap.size w a fs) (hf : FewF fs) (hn : n.size ≤ 140737488351232) :
    Calls Tryz.prog 27 #[.slice a fs.length c, .string n] w (RulePost (getF n fs).isSome w) := by
  have CG := Lib.hid (get_any fs n a c w hin hf.small (by have := hf.1; omega) hn)
  obtain ⟨m, hm⟩ : ∃ m, fs.length = m := ⟨_, rfl⟩
  obtain ⟨o, ho⟩ : ∃ o, getF n fs = o := ⟨_, rfl⟩
  unfold GetPost at CG
  rw [hm] at CG ⊢
  rw [ho] at CG ⊢
  clear hin hf hn hm ho
  unfold RulePost
  go_enter Tryz.func27, Tryz.ntmps27
  go_wp2_with fail
  refine CG.out.mono ?_
  rintro e w1 ⟨hb, ⟨h, rfl⟩ | ⟨v, h, rfl⟩⟩
  · have HB := Lib.hid hb
    have HO : Hid (o = none) := Lib.hid h
    clear hb h
    go_wp2
    go_ret
    exact ⟨by rw [HO.out]; rfl, HB.out⟩
  · have HB := Lib.hid hb
    have HO : Hid (o = some v) := Lib.hid h
    clear hb h
    go_wp2
    go_ret
    exact ⟨by rw [HO.out]; rfl, HB.out⟩
set_option maxRecDepth 100000 in
set_option maxHeartbeats 4000000 in
theorem rule1_any (w : World) (p : Nat) (m tg : ByteArray) (fa : Option Addr) (fn fc : Nat) (ba : Option Addr) (bn bc : Nat) (h : ReqAt w p m tg fa fn fc ba bn bc) :
    Calls Tryz.prog 29 #[.pointer (some ⟨p, 0, none⟩)] w (RulePost (m.toList == [71, 69, 84]) w) := by
  have c0 : w.cell? ⟨p, 0, none⟩ = some (.string m) := by rw [Lib.cell_of_heap h]; rfl
  unfold RulePost
  obtain ⟨b, hb⟩ : ∃ b, (m.toList == [71, 69, 84]) = b := ⟨_, rfl⟩
  rw [hb]
  clear h
  go_enter Tryz.func29, Tryz.ntmps29
  go_wp2
  go_ret
  exact ⟨rfl, Below.refl _ _⟩
def statusF (n : Int) : Bool := decide (200 ≤ n) && (n != 206) && (n != 304)
set_option maxRecDepth 100000 in
set_option maxHeartbeats 4000000 in
theorem rule2_any (w : World) (p : Nat) (st : Int) (rs : ByteArray) (fa : Option Addr) (fn fc : Nat) (ba : Option Addr) (bn bc : Nat) (h : RespAt w p st rs fa fn fc ba bn bc) :
    Calls Tryz.prog 30 #[.pointer (some ⟨p, 0, none⟩)] w (RulePost (statusF st) w) := by
  have c0 : w.cell? ⟨p, 0, none⟩ = some (.int .i64 st) := by rw [Lib.cell_of_heap h]; rfl
  unfold RulePost
  have hs : statusF st = (decide (200 ≤ st) && (st != 206) && (st != 304)) := rfl
  obtain ⟨b1, h1⟩ : ∃ b, decide (200 ≤ st) = b := ⟨_, rfl⟩
  obtain ⟨b2, h2⟩ : ∃ b, (st != 206) = b := ⟨_, rfl⟩
  obtain ⟨b3, h3⟩ : ∃ b, (st != 304) = b := ⟨_, rfl⟩
  rw [h1, h2, h3] at hs
  rw [hs]
  clear h hs
  cases b1 <;> cases b2 <;> cases b3
  all_goals
    go_enter Tryz.func30, Tryz.ntmps30
    go_wp2
    go_ret
    exact ⟨rfl, Below.refl _ _⟩
set_option maxRecDepth 100000 in
set_option maxHeartbeats 4000000 in
theorem rule3_any (w : World) (p q : Nat) (a s : Ctl) (ha : CtlAt w p a) (hs : CtlAt w q s) :
    Calls Tryz.prog 31 #[.pointer (some ⟨p, 0, none⟩), .pointer (some ⟨q, 0, none⟩)] w (RulePost (!a.noStore && !s.noStore && !s.priv) w) := by
  have c0 : w.cell? ⟨p, 0, none⟩ = some (.bool a.noStore) := (ctl_reads ha).1
  have c1 : w.cell? ⟨q, 0, none⟩ = some (.bool s.noStore) := (ctl_reads hs).1
  have c2 : w.cell? ⟨q, 2, none⟩ = some (.bool s.priv) := (ctl_reads hs).2.2.1
  unfold RulePost
  obtain ⟨b1, h1⟩ : ∃ b, a.noStore = b := ⟨_, rfl⟩
  obtain ⟨b2, h2⟩ : ∃ b, s.noStore = b := ⟨_, rfl⟩
  obtain ⟨b3, h3⟩ : ∃ b, s.priv = b := ⟨_, rfl⟩
  rw [h1] at c0 ⊢
  rw [h2] at c1 ⊢
  rw [h3] at c2 ⊢
  clear ha hs h1 h2 h3
  cases b1 <;> cases b2 <;> cases b3
  all_goals
    go_enter Tryz.func31, Tryz.ntmps31
    go_wp2
    go_ret
    exact ⟨rfl, Below.refl _ _⟩
def HasAt (w : World) (p : Nat) : Prop := w.heap[p]? = some (.cells #[.func (.func 27) #[] #[]] 62 (0, 0))
theorem ent_has (args : Array Value) (w : World) : (callFunc 27 args).run Tryz.prog w = .ok (.enter 27 args) w := enters_of Tryz.func27 (by kernel_rfl) rfl args w
set_option maxRecDepth 100000 in
set_option maxHeartbeats 8000000 in
theorem rule4_any (w : World) (hp q s : Nat) (c : Ctl) (fs : Fls) (m tg : ByteArray) (fa : Option Addr) (fc : Nat) (ba : Option Addr) (bn bc : Nat) (hh : HasAt w hp) (hq : ReqAt w q m tg fa fs.length fc ba bn bc) (hs : CtlAt w s c) (hin : FieldsIn w.heap.size w fa fs) (hf : FewF fs) :
    Calls Tryz.prog 32 #[.pointer (some ⟨hp, 0, none⟩), .pointer (some ⟨q, 0, none⟩), .pointer (some ⟨s, 0, none⟩)] w (RulePost (!(getF authN fs).isSome || c.pub || c.must || decide (0 ≤ c.sMax)) w) := by
  have c0 : w.cell? ⟨hp, 0, none⟩ = some (.func (.func 27) #[] #[]) := by rw [Lib.cell_of_heap hh]; rfl
  have c1 : w.cell? ⟨q, 2, none⟩ = some (.slice fa fs.length fc) := by rw [Lib.cell_of_heap hq]; rfl
  have CH := has_any fs authN fa fc w hin hf (by decide)
  unfold authN at CH
  obtain ⟨m', hm⟩ : ∃ m, fs.length = m := ⟨_, rfl⟩
  have HA : Hid (getF authN fs = getF (⟨#[65, 117, 116, 104, 111, 114, 105, 122, 97, 116, 105, 111, 110]⟩ : ByteArray) fs) := Lib.hid rfl
  rw [HA.out]
  obtain ⟨b, hb⟩ : ∃ b, (getF (⟨#[65, 117, 116, 104, 111, 114, 105, 122, 97, 116, 105, 111, 110]⟩ : ByteArray) fs).isSome = b := ⟨_, rfl⟩
  rw [hm] at c1 CH
  rw [hb] at CH ⊢
  unfold RulePost at CH ⊢
  have HCH := Lib.hid CH
  have HS := Lib.hid hs
  have HSL : Hid (s < w.heap.size) := Lib.hid (Array.getElem?_eq_some_iff.1 hs).1
  have HG : Hid (∀ w1 : World, Below w.heap.size w w1 → w1.cell? ⟨s, 3, none⟩ = some (.bool c.pub) ∧ w1.cell? ⟨s, 4, none⟩ = some (.bool c.must) ∧ w1.cell? ⟨s, 9, none⟩ = some (.int .i64 c.sMax)) := Lib.hid (by
    intro w1 hb1
    have hs1 : CtlAt w1 s c := (hb1.block _ HSL.out).trans HS.out
    exact ⟨(ctl_reads hs1).2.2.2.1, (ctl_reads hs1).2.2.2.2.1, (ctl_reads hs1).2.2.2.2.2.2.2.2.2.1⟩)
  obtain ⟨x3, h3⟩ : ∃ x, c.pub = x := ⟨_, rfl⟩
  obtain ⟨x4, h4⟩ : ∃ x, c.must = x := ⟨_, rfl⟩
  obtain ⟨x9, h9⟩ : ∃ x, c.sMax = x := ⟨_, rfl⟩
  rw [h3, h4, h9] at HG ⊢
  obtain ⟨d1, e1⟩ : ∃ x, decide (0 ≤ x9) = x := ⟨_, rfl⟩
  rw [e1]
  have HE := Lib.hid e1
  clear hh hq hs hin hf CH hm HA hb e1 HS HSL h3 h4 h9
  go_enter Tryz.func32, Tryz.ntmps32
  go_wp2_with fail
  refine HCH.out.mono ?_
  rintro e w1 ⟨rfl, hb1⟩
  have HB := Lib.hid hb1
  have n3 := (HG.out w1 hb1).1
  have n4 := (HG.out w1 hb1).2.1
  have n9 := (HG.out w1 hb1).2.2
  have he := HE.out
  clear hb1 HCH c0 c1
  cases b <;> cases x3 <;> cases x4 <;> cases d1
  all_goals
    go_wp2
    go_ret
    exact ⟨rfl, HB.out⟩
set_option maxRecDepth 100000 in
set_option maxHeartbeats 4000000 in
theorem rule5_any (w : World) (p : Nat) (st : Int) (rs : ByteArray) (fs : Fls) (fa : Option Addr) (fc : Nat) (ba : Option Addr) (bn bc : Nat) (h : RespAt w p st rs fa fs.length fc ba bn bc) (hin : FieldsIn w.heap.size w fa fs) (hf : FewF fs) :
    Calls Tryz.prog 33 #[.pointer (some ⟨p, 0, none⟩)] w (RulePost (!starP (listF varyN fs)) w) := by
  have c0 : w.cell? ⟨p, 0, none⟩ = some (.int .i64 st) := by rw [Lib.cell_of_heap h]; rfl
  have c1 : w.cell? ⟨p, 1, none⟩ = some (.string rs) := by rw [Lib.cell_of_heap h]; rfl
  have c2 : w.cell? ⟨p, 2, none⟩ = some (.slice fa fs.length fc) := by rw [Lib.cell_of_heap h]; rfl
  have c3 : w.cell? ⟨p, 3, none⟩ = some (.slice ba bn bc) := by rw [Lib.cell_of_heap h]; rfl
  have CN := names_any fs st rs fa ba fc bn bc w hin hf
  unfold NamesPost at CN
  obtain ⟨m, hm⟩ : ∃ m, fs.length = m := ⟨_, rfl⟩
  obtain ⟨b, hb⟩ : ∃ b, starP (listF varyN fs) = b := ⟨_, rfl⟩
  obtain ⟨L, hL⟩ : ∃ L, varyL (listF varyN fs) = L := ⟨_, rfl⟩
  rw [hm] at CN c2
  rw [hb] at CN ⊢
  rw [hL] at CN
  have HCN := Lib.hid CN
  unfold RulePost
  clear h hin hf CN hm hb hL
  go_enter Tryz.func33, Tryz.ntmps33
  go_wp2_with fail
  refine HCN.out.mono ?_
  rintro e w1 ⟨a, cc, rfl, _, hb1⟩
  have HB := Lib.hid hb1
  clear hb1
  go_wp2
  go_ret
  exact ⟨rfl, HB.out⟩
set_option maxRecDepth 100000 in
set_option maxHeartbeats 8000000 in
theorem rule6_any (w : World) (hp p s : Nat) (c : Ctl) (fs : Fls) (st : Int) (rs : ByteArray) (fa : Option Addr) (fc : Nat) (ba : Option Addr) (bn bc : Nat) (hh : HasAt w hp) (hr : RespAt w p st rs fa fs.length fc ba bn bc) (hs : CtlAt w s c) (hin : FieldsIn w.heap.size w fa fs) (hf : FewF fs) :
    Calls Tryz.prog 35 #[.pointer (some ⟨s, 0, none⟩), .pointer (some ⟨hp, 0, none⟩), .pointer (some ⟨p, 0, none⟩)] w (RulePost (c.pub || decide (0 ≤ c.maxA) || decide (0 ≤ c.sMax) || (getF expN fs).isSome || heurF st) w) := by
  have c0 : w.cell? ⟨hp, 0, none⟩ = some (.func (.func 27) #[] #[]) := by rw [Lib.cell_of_heap hh]; rfl
  have c1 : w.cell? ⟨p, 2, none⟩ = some (.slice fa fs.length fc) := by rw [Lib.cell_of_heap hr]; rfl
  have n3 := (ctl_reads hs).2.2.2.1
  have n8 := (ctl_reads hs).2.2.2.2.2.2.2.2.1
  have n9 := (ctl_reads hs).2.2.2.2.2.2.2.2.2.1
  have CH := has_any fs expN fa fc w hin hf (by decide)
  unfold expN at CH
  obtain ⟨m', hm⟩ : ∃ m, fs.length = m := ⟨_, rfl⟩
  have HA : Hid (getF expN fs = getF (⟨#[69, 120, 112, 105, 114, 101, 115]⟩ : ByteArray) fs) := Lib.hid rfl
  rw [HA.out]
  obtain ⟨b, hb⟩ : ∃ b, (getF (⟨#[69, 120, 112, 105, 114, 101, 115]⟩ : ByteArray) fs).isSome = b := ⟨_, rfl⟩
  rw [hm] at c1 CH
  rw [hb] at CH ⊢
  unfold RulePost at CH ⊢
  have HCH := Lib.hid CH
  have HG : Hid (∀ w1 : World, Below w.heap.size w w1 → w1.cell? ⟨p, 0, none⟩ = some (.int .i64 st)) := Lib.hid (by
    intro w1 hb1
    have h1 := (hb1.block _ (Array.getElem?_eq_some_iff.1 hr).1).trans hr
    rw [Lib.cell_of_heap h1]; rfl)
  obtain ⟨x3, h3⟩ : ∃ x, c.pub = x := ⟨_, rfl⟩
  obtain ⟨x8, h8⟩ : ∃ x, c.maxA = x := ⟨_, rfl⟩
  obtain ⟨x9, h9⟩ : ∃ x, c.sMax = x := ⟨_, rfl⟩
  rw [h3] at n3 ⊢
  rw [h8] at n8 ⊢
  rw [h9] at n9 ⊢
  obtain ⟨d8, e8⟩ : ∃ x, decide (0 ≤ x8) = x := ⟨_, rfl⟩
  obtain ⟨d9, e9⟩ : ∃ x, decide (0 ≤ x9) = x := ⟨_, rfl⟩
  obtain ⟨y, hy⟩ : ∃ y, heurF st = y := ⟨_, rfl⟩
  rw [e8, e9, hy]
  have HU : Hid (∀ v : World, Calls Tryz.prog 36 #[.int .i64 st] v fun e w' => e = .returned (.bool y) ∧ w' = v) := Lib.hid (by intro v; rw [← hy]; exact heur_any st v)
  clear hh hr hs hin hf CH hm HA hb h3 h8 h9 hy
  go_enter Tryz.func35, Tryz.ntmps35
  rcases x3 with _ | _
  · rcases d8 with _ | _
    · rcases d9 with _ | _
      · go_wp2_with fail
        refine HCH.out.mono ?_
        rintro e w1 ⟨rfl, hb1⟩
        have HB := Lib.hid hb1
        have n1 := HG.out w1 hb1
        clear hb1 HCH c0 c1 n3 n8 n9 e8 e9
        rcases b with _ | _
        · go_wp2_with fail
          refine (HU.out _).mono ?_
          rintro e w2 ⟨rfl, rfl⟩
          rcases y with _ | _
          all_goals
            go_wp2
            go_ret
            exact ⟨rfl, HB.out⟩
        · go_wp2
          go_ret
          exact ⟨rfl, HB.out⟩
      · go_wp2
        go_ret
        exact ⟨rfl, Below.refl _ _⟩
    · go_wp2
      go_ret
      exact ⟨rfl, Below.refl _ _⟩
  · go_wp2
    go_ret
    exact ⟨rfl, Below.refl _ _⟩
set_option maxRecDepth 100000 in
set_option maxHeartbeats 4000000 in
theorem rule7_any (w : World) (p : Nat) (st : Int) (rs : ByteArray) (fa : Option Addr) (fn fc : Nat) (ba : Option Addr) (bn bc : Nat) (h : RespAt w p st rs fa fn fc ba bn bc) :
    Calls Tryz.prog 37 #[.pointer (some ⟨p, 0, none⟩)] w (RulePost (decide (bn ≤ 60000)) w) := by
  have c3 : w.cell? ⟨p, 3, none⟩ = some (.slice ba bn bc) := by rw [Lib.cell_of_heap h]; rfl
  have hd : decide ((bn : Int) ≤ 60000) = decide (bn ≤ 60000) := decide_eq_decide.2 (by omega)
  obtain ⟨b, hb⟩ : ∃ b, decide (bn ≤ 60000) = b := ⟨_, rfl⟩
  rw [hb] at hd ⊢
  unfold RulePost
  clear h
  go_enter Tryz.func37, Tryz.ntmps37
  go_wp2
  go_ret
  exact ⟨rfl, Below.refl _ _⟩
end Go.Proofs.YtgfinhkplijhbaaGreatDoor
namespace Go.Proofs.YtgfinhkplijhbaaGreatDoor.CtrlS
open Go.RowKit HeadMath HeadS

/-- The field's two cells, in the block that was just made. -/
theorem field_new (w : World) (n x : ByteArray) : ∀ j u, [Value.string n, Value.string x][j]? = some u → (w.alloc (.cells #[.string n, .string x] 48)).cell? ((⟨w.heap.size, 0, none⟩ : Addr).add j) = some u := by
  intro j u hj
  match j, hj with
  | 0, hj => injection hj with hj; subst hj; simp [go_sem, Addr.add]
  | 1, hj => injection hj with hj; subst hj; simp [go_sem, Addr.add]
theorem cell_lt {w : World} {p : Addr} {v : Value} (h : w.cell? p = some v) : p.block < w.heap.size := by
  rcases Nat.lt_or_ge p.block w.heap.size with h1 | h1
  · exact h1
  · simp [World.cell?, Array.getElem?_eq_none h1] at h
end Go.Proofs.YtgfinhkplijhbaaGreatDoor.CtrlS
