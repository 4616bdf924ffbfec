/-
  A control's text: its parts.
  ctrl.Text.
  The reference's text of a control.
  The reference's decimal numeral.
  The reference's ControlText.
  The law's own example.
  A control's text is read back as it.
-/
import Derived.Test.YtkpkpfolgbpjbaaDoorShelf
import Derived.Deep.RegionLaw
import Derived.Deep.AppendLies
import Derived.Lib.LaidTab
import Derived.Lib.ItoaLen
import Derived.Lib.AppendIntMem
import Derived.Test.YtkpkpfolgbpjbaaDoorMg12
import Derived.Test.YtkpkpfolgbpjbaaDoorMg17
namespace Go.Proofs.YtkpkpfolgbpjbaaDoor
open Go.RowKit HeadMath HeadS

def flagI (b : Bool) (name : ByteArray) : List ByteArray := if b then [name] else []
def numB (n : Int) (name : ByteArray) : ByteArray := name ++ ⟨#[61]⟩ ++ ⟨(Lib.itoa (min n 2147483647)).toArray⟩
def numI (n : Int) (name : ByteArray) : List ByteArray := if 0 ≤ n then [numB n name] else []
/-- The variable of the parts: block pb holds a row of the call's own, that lies behind it. -/
def PartsAt (w : World) (pb : Nat) (l : List ByteArray) : Prop := ∃ v, w.heap[pb]? = some (.cells #[v] 33 (0, 0)) ∧ OwnStrs (pb + 1) w v l
def PartPost (pb : Nat) (l : List ByteArray) (w : World) (e : Ending) (w' : World) : Prop := e = .returned (.tuple #[]) ∧ PartsAt w' pb l ∧ Below pb w w'
theorem own_form {B : Nat} {w : World} {v : Value} {l : List ByteArray} {n : Nat} (h : OwnStrs B w v l) (hn : l.length = n) : ∃ a c, v = .slice a n c ∧ (a = none → c = 0) := by
  subst hn
  rcases h.2 with ⟨hv, h2⟩ | ⟨g, cap, cur, hv, _⟩
  · exact ⟨none, 0, by rw [h2]; exact hv, fun _ => rfl⟩
  · exact ⟨_, _, hv, fun e => by cases e⟩
theorem own_not {w : World} {pb : Nat} {v : Value} {l : List ByteArray} (h : OwnStrs (pb + 1) w v l) : v.ownBlock ≠ some pb := fun e => by have := (World.ownsRow.lt h pb e).1; omega
/-- The row is appended to, and stored where it was. -/
theorem parts_put {w w1 : World} {pb : Nat} {v v' : Value} {l l' : List ByteArray} (hp : w.heap[pb]? = some (.cells #[v] 33 (0, 0))) (hv : OwnStrs (pb + 1) w v l) (ho : OwnStrs (pb + 1) w1 v' l') (hg : w.grownBy w1 v.ownBlock) :
    w1.heap[pb]? = some (.cells #[v] 33 (0, 0)) ∧ PartsAt (w1.setCell ⟨pb, 0, none⟩ v') pb l' ∧ Below pb w (w1.setCell ⟨pb, 0, none⟩ v') := by
  have hlt : pb < w.heap.size := (Array.getElem?_eq_some_iff.1 hp).1
  have h1 : w1.heap[pb]? = some (.cells #[v] 33 (0, 0)) := (hg.block pb hlt (fun e => own_not hv e.symm)).trans hp
  have hs : Spares (fun b => b = pb) w1 (w1.setCell ⟨pb, 0, none⟩ v') := (Spares.refl (fun b => b = pb) w1).setCell (p := ⟨pb, 0, none⟩) (.inl rfl) v'
  refine ⟨h1, ⟨v', by simpa using ctl_set h1 0 v', hs.own ho (fun g hgb e => own_not ho (by rw [hgb, e]))⟩, ?_⟩
  have hb : Below pb w w1 := (Below.refl pb w).grown hg (Nat.le_of_lt hlt) (fun g h => by have := (World.ownsRow.lt hv g h).1; omega)
  exact hb.trans (hs.below (by have := hb.size; omega) (fun k hk e => by omega))
theorem parts_below {w w' : World} {pb B : Nat} {l : List ByteArray} (h : PartsAt w pb l) (hb : Below w.heap.size w w') : PartsAt w' pb l := by
  obtain ⟨v, h1, h2⟩ := h
  have hlt : pb < w.heap.size := (Array.getElem?_eq_some_iff.1 h1).1
  have hs := Below.spares (F := nowhere) hb (fun k hk => .inr hk)
  exact ⟨v, (hb.block pb hlt).trans h1, hs.own h2 (fun g _ h => h)⟩
theorem one_str (w : World) (x : ByteArray) : StrsIn (w.heap.size + 1) (w.alloc (.cells #[.string x] 9)) (some ⟨w.heap.size, 0, none⟩) [x] := by
  intro j hj
  obtain rfl : j = 0 := by simpa using hj
  exact ⟨_, 0, rfl, by omega, by simp [go_sem]⟩
set_option maxRecDepth 100000 in
set_option maxHeartbeats 4000000 in
theorem flag_any (b : Bool) (name : ByteArray) (pb : Nat) (l : List ByteArray) (w : World) (h : PartsAt w pb l) (hl : l.length ≤ 1000) :
    Calls Tryd.prog 33 #[.bool b, .string name, .pointer (some ⟨pb, 0, none⟩)] w (PartPost pb (l ++ flagI b name) w) := by
  unfold PartPost
  cases b with
  | false =>
    have HE : Hid (l ++ flagI false name = l) := Lib.hid (by simp [flagI])
    go_enter Tryd.func33, Tryd.ntmps33
    go_wp2
    go_end0
    exact ⟨rfl, by rw [HE.out]; exact h, Below.refl _ _⟩
  | true =>
    have HE : Hid (l ++ flagI true name = l ++ [name]) := Lib.hid (by simp [flagI])
    obtain ⟨v, h1, h2⟩ := h
    have hlt : pb < w.heap.size := (Array.getElem?_eq_some_iff.1 h1).1
    have c0 : w.cell? ⟨pb, 0, none⟩ = some v := by rw [Lib.cell_of_heap h1]; rfl
    have H1 := Lib.hid h1
    have H2 := Lib.hid h2
    clear h1 h2
    go_enter Tryd.func33, Tryd.ntmps33
    go_wp2_with ((with_reducible show wpList _ _ _ (⟨some 9, _, _, _, _, _⟩ :: _) _ _); refine wpList_append_strs rfl _ _ rfl (pb + 1) (w.heap.size + 1) v l rfl (World.ownsRow.alloc H2.out _) (by simp; omega) (some ⟨w.heap.size, 0, none⟩) 1 1 [name] rfl rfl (one_str w name) (fun e => by cases e) (by simp; omega) ?_; intro v' w1 ho hg; obtain ⟨av, cv, rfl, _⟩ := own_form (n := l.length + 1) ho (by simp); have HP := Lib.hid (parts_put (w := w.alloc (.cells #[.string name] 9)) ((Below.heap_alloc _ _ _ hlt).trans H1.out) (World.ownsRow.alloc H2.out _) ho hg); have f1 := Lib.frozen_of_heap HP.out.1 0; have c1 : w1.cell? ⟨pb, 0, none⟩ = some v := (Lib.cell_of_heap HP.out.1 0).trans rfl; clear ho hg)
    go_end0
    exact ⟨rfl, by rw [HE.out]; exact HP.out.2.1, ((Below.refl pb w).alloc (Nat.le_of_lt hlt) _).trans HP.out.2.2⟩
/-- The table that FormatInt reads lies in w. -/
def TabW (w : World) : Prop := Lib.TabIs Tryd.prog w "internal/strconv.uint64pow10" .u64 Lib.pow10Tab
theorem TabW.spares {F : Nat → Prop} {w w' : World} (h : TabW w) (hs : Spares F w w') (hF : ¬ F 1) : TabW w' := by
  unfold TabW Lib.TabIs World.var? at h ⊢
  rw [show Tryd.prog.globalNamed "internal/strconv.uint64pow10" = some 1 by kernel_rfl] at h ⊢
  simp only [Option.bind_some] at h ⊢
  have hlt : 1 < w.heap.size := by
    rcases Nat.lt_or_ge 1 w.heap.size with h' | h'
    · exact h'
    · rw [Array.getElem?_eq_none h'] at h; cases h
  rw [hs.block 1 hlt hF]
  exact h
theorem TabW.below {w w' : World} (h : TabW w) (hb : Below w.heap.size w w') : TabW w' := h.spares (Below.spares (F := nowhere) hb (fun k hk => .inr hk)) (fun h => h)
theorem new_str (w : World) (X : ByteArray) : ∀ j u, [Value.string X][j]? = some u → (w.alloc (.cells #[.string X] 9)).cell? ((⟨w.heap.size, 0, none⟩ : Addr).add j) = some u := by
  intro j u hj
  match j, hj with
  | 0, hj => injection hj with hj; subst hj; simp [go_sem, Addr.add]
theorem own_snoc {B : Nat} {w : World} {v : Value} {l : List ByteArray} {X : ByteArray} (h : w.ownsRow B 9 1 v (l.length + 1) (strCells l ++ [.string X])) : OwnStrs B w v (l ++ [X]) := by
  unfold OwnStrs
  have e : strCells (l ++ [X]) = strCells l ++ [.string X] := by simp [strCells]
  rw [List.length_append, e]
  exact h
set_option maxRecDepth 100000 in
set_option maxHeartbeats 8000000 in
theorem number_any (n : Int) (name : ByteArray) (pb : Nat) (l : List ByteArray) (w : World) (h : PartsAt w pb l) (hl : l.length ≤ 1000) (ht : TabW w) (h63 : n ≤ 9223372036854775807) (h64 : -9223372036854775808 ≤ n) (hpb : 1 < pb) (hnm : name.size ≤ 100) :
    Calls Tryd.prog 34 #[.int .i64 n, .string name, .pointer (some ⟨pb, 0, none⟩)] w (PartPost pb (l ++ numI n name) w) := by
  unfold PartPost
  by_cases h0 : 0 ≤ n
  · have HE : Hid (l ++ numI n name = l ++ [numB n name]) := Lib.hid (by unfold numI; rw [if_pos h0])
    obtain ⟨v, h1, h2⟩ := h
    obtain ⟨av0, cv0, rfl, _⟩ := own_form (n := l.length) h2 rfl
    have hlt : pb < w.heap.size := (Array.getElem?_eq_some_iff.1 h1).1
    have c0 : w.cell? ⟨pb, 0, none⟩ = some (.slice av0 l.length cv0) := by rw [Lib.cell_of_heap h1]; rfl
    have H1 := Lib.hid h1
    have H2 := Lib.hid h2
    obtain ⟨i0, hi, hz0, hz1, hz2⟩ := info_parts strInfo
    have cF : ∀ w1, TabW w1 → Calls Tryd.prog 35 #[.int .i64 (min n 2147483647), .int .i64 10] w1 fun e w' => e = .returned (.string ⟨(Lib.itoa (min n 2147483647)).toArray⟩) ∧ Below w1.heap.size w1 w' := fun w1 hw1 => by
      refine (Tryd.strconv_FormatInt_10 (min n 2147483647) (by omega) (by omega) w1 hw1).mono ?_
      rintro e w' ⟨he, k, os, rfl⟩
      exact ⟨he, Lib.below_grow _ _ (Nat.le_refl _) k os⟩
    obtain ⟨m, hm⟩ : ∃ m : Int, min n 2147483647 = m := ⟨_, rfl⟩
    rw [hm] at cF
    obtain ⟨tx, htx⟩ : ∃ tx : ByteArray, (⟨(Lib.itoa m).toArray⟩ : ByteArray) = tx := ⟨_, rfl⟩
    simp only [htx] at cF
    have HTX : Hid (numB n name = name ++ ⟨#[61]⟩ ++ tx) := Lib.hid (by unfold numB; rw [hm, htx])
    have CF := Lib.hid cF
    have htz : tx.size ≤ 21 := by
      have := Lib.itoa_length_le m (by omega) (by omega)
      rw [← htx]
      show (Lib.itoa m).toArray.size ≤ 21
      simpa using this
    have q1 : ¬ 9223372036854775807 < name.size + 1 := by omega
    have q2 : ¬ 9223372036854775807 < name.size + 1 + tx.size := by omega
    obtain ⟨X, hX⟩ : ∃ X : ByteArray, name ++ ⟨#[61]⟩ ++ tx = X := ⟨_, rfl⟩
    rw [hX] at HTX
    have HL1 : Hid (l.length + 1 ≤ maxLen) := Lib.hid (by unfold maxLen; omega)
    have HL2 : Hid ((l.length + 1) * 16 ≤ 140737488355328) := Lib.hid (by omega)
    have HB0 : Hid (∀ w9, Below w.drew.heap.size w.drew w9 → w9.heap[pb]? = some (.cells #[.slice av0 l.length cv0] 33 (0, 0)) ∧ OwnStrs (pb + 1) w9 (.slice av0 l.length cv0) l ∧ pb < w9.heap.size) := Lib.hid (fun w9 hb => by
      have hs := Below.spares (F := nowhere) hb (fun k hk => .inr hk)
      exact ⟨(hb.block pb hlt).trans H1.out, hs.own (show w.drew.ownsRow (pb + 1) 9 1 _ l.length (strCells l) from H2.out) (fun g _ h => h), Nat.lt_of_lt_of_le hlt hb.size⟩)
    have HTW := Lib.hid (show TabW w.drew from ht.spares ((Spares.refl nowhere w).drew) (fun h => h))
    clear h1 h2 htx cF ht
    go_enter Tryd.func34, Tryd.ntmps34
    go_wp2
    go_region_law
      (first
        | (refine step_append_lies _ (by rfl) _ _ _ (by rfl) (pb + 1) 9 i0 _ 1 16 Tryd.underlying33 hi hz0 hz1 hz2 rfl (by decide) _ l.length (strCells l) (by rfl)
             (HO9.out X) ⟨w9.heap.size, 0, none⟩ 1 1 [.string X] (by rfl) (by rfl) (HC9.out X) (by simp [Value.oneCell']) Nat.one_pos HL1.out HL2.out (HSB9.out X) (w9.heap.size + 1) (HSZ9.out X) ?_
           intro gg cg w4 hown' hgrow _ _
           have hp4 := HPUT.out X w4 _ (own_snoc hown') hgrow
           have f4 : w4.frozen? ⟨pb, 0, none⟩ = false := Lib.frozen_of_heap hp4.1 0
           have c4 : w4.cell? ⟨pb, 0, none⟩ = some (.slice av0 l.length cv0) := (Lib.cell_of_heap hp4.1 0).trans rfl
           have HP4 := Lib.hid hp4.2
           clear hown' hgrow hp4)
        | (go_simp
           go_at_call 35
           refine (CF.out _ HTW.out).mono ?_
           rintro e w9 ⟨rfl, hb9⟩
           have h19 := HB0.out w9 hb9
           have c9 : w9.cell? ⟨pb, 0, none⟩ = some (.slice av0 l.length cv0) := (Lib.cell_of_heap h19.1 0).trans rfl
           have HO9 := Lib.hid (fun X : ByteArray => World.ownsRow.alloc (show w9.ownsRow (pb + 1) 9 1 _ l.length (strCells l) from h19.2.1) (.cells #[.string X] 9))
           have HC9 := Lib.hid (new_str w9)
           have HSB9 : Hid (∀ X : ByteArray, pb + 1 ≤ (w9.alloc (.cells #[.string X] 9)).heap.size) := Lib.hid (fun X => by have := h19.2.2; simp; omega)
           have HSZ9 : Hid (∀ X : ByteArray, (w9.alloc (.cells #[.string X] 9)).heap.size = w9.heap.size + 1) := Lib.hid (fun X => by simp)
           have HPUT := Lib.hid (fun (X : ByteArray) (w4 : World) (v' : Value) (ho : OwnStrs (pb + 1) w4 v' (l ++ [X])) (hg : (w9.alloc (.cells #[.string X] 9)).grownBy w4 (Value.slice av0 l.length cv0).ownBlock) => parts_put (w := w9.alloc (.cells #[.string X] 9)) ((Below.heap_alloc _ _ _ h19.2.2).trans h19.1) (World.ownsRow.alloc h19.2.1 _) ho hg)
           have HB9 := Lib.hid hb9
           have hlt9 := h19.2.2
           clear hb9 h19))
    all_goals
      have HFR := Lib.hid ((((Below.refl pb w).drew.trans (HB9.out.mono (Nat.le_of_lt hlt))).alloc (Nat.le_of_lt hlt9) (.cells #[.string X] 9)).trans HP4.out.2)
      go_end0
      exact ⟨rfl, by rw [HE.out, HTX.out]; exact HP4.out.1, HFR.out⟩
  · have HE : Hid (l ++ numI n name = l) := Lib.hid (by unfold numI; rw [if_neg h0]; simp)
    go_enter Tryd.func34, Tryd.ntmps34
    go_wp2
    go_end0
    exact ⟨rfl, by rw [HE.out]; exact h, Below.refl _ _⟩
end Go.Proofs.YtkpkpfolgbpjbaaDoor
namespace Go.Proofs.YtkpkpfolgbpjbaaDoor
open Go.RowKit HeadMath HeadS

/-- The parts of a control's text. -/
def itemsF (c : Ctl) : List ByteArray := ((((((((((((([] : List ByteArray) ++ flagI c.noStore ⟨#[110, 111, 45, 115, 116, 111, 114, 101]⟩) ++ flagI c.noCache ⟨#[110, 111, 45, 99, 97, 99, 104, 101]⟩) ++ flagI c.priv ⟨#[112, 114, 105, 118, 97, 116, 101]⟩) ++ flagI c.pub ⟨#[112, 117, 98, 108, 105, 99]⟩) ++ flagI c.must ⟨#[109, 117, 115, 116, 45, 114, 101, 118, 97, 108, 105, 100, 97, 116, 101]⟩) ++ flagI c.prox ⟨#[112, 114, 111, 120, 121, 45, 114, 101, 118, 97, 108, 105, 100, 97, 116, 101]⟩) ++ flagI c.only ⟨#[111, 110, 108, 121, 45, 105, 102, 45, 99, 97, 99, 104, 101, 100]⟩) ++ numI c.maxA ⟨#[109, 97, 120, 45, 97, 103, 101]⟩) ++ numI c.sMax ⟨#[115, 45, 109, 97, 120, 97, 103, 101]⟩) ++ numI c.minF ⟨#[109, 105, 110, 45, 102, 114, 101, 115, 104]⟩) ++ flagI c.anyStale ⟨#[109, 97, 120, 45, 115, 116, 97, 108, 101]⟩) ++ numI c.maxS ⟨#[109, 97, 120, 45, 115, 116, 97, 108, 101]⟩)
def textF (c : Ctl) : List UInt8 := Lib.join ((itemsF c).map (·.data.toList)) [44, 32]
def Ctl.wide (c : Ctl) : Prop := (-9223372036854775808 ≤ c.maxA ∧ c.maxA ≤ 9223372036854775807) ∧ (-9223372036854775808 ≤ c.sMax ∧ c.sMax ≤ 9223372036854775807) ∧ (-9223372036854775808 ≤ c.minF ∧ c.minF ≤ 9223372036854775807) ∧ (-9223372036854775808 ≤ c.maxS ∧ c.maxS ≤ 9223372036854775807)
theorem flagI_len (b : Bool) (x : ByteArray) : (flagI b x).length ≤ 1 := by unfold flagI; split <;> simp
theorem numI_len (n : Int) (x : ByteArray) : (numI n x).length ≤ 1 := by unfold numI; split <;> simp
theorem numB_size {n : Int} {x : ByteArray} (hn : 0 ≤ n) (hx : x.size ≤ 100) : (numB n x).size ≤ 122 := by
  unfold numB
  have := Lib.itoa_length_le (min n 2147483647) (by omega) (by omega)
  have e : (⟨(Lib.itoa (min n 2147483647)).toArray⟩ : ByteArray).size = (Lib.itoa (min n 2147483647)).length := by
    show (Lib.itoa (min n 2147483647)).toArray.size = _
    simp
  rw [ByteArray.size_append, ByteArray.size_append, e]
  have : (⟨#[61]⟩ : ByteArray).size = 1 := rfl
  omega
theorem item_size (c : Ctl) : ∀ x ∈ itemsF c, x.size ≤ 122 := by
  intro x hx
  unfold itemsF at hx
  simp only [List.mem_append, List.not_mem_nil, false_or] at hx
  have hf : ∀ (b : Bool) (y : ByteArray), y.size ≤ 100 → x ∈ flagI b y → x.size ≤ 122 := by
    intro b y hy h
    unfold flagI at h
    split at h
    · obtain rfl : x = y := by simpa using h
      omega
    · cases h
  have hn : ∀ (n : Int) (y : ByteArray), y.size ≤ 100 → x ∈ numI n y → x.size ≤ 122 := by
    intro n y hy h
    unfold numI at h
    split at h
    · obtain rfl : x = numB n y := by simpa using h
      exact numB_size (by assumption) hy
    · cases h
  rcases hx with ((((((((((h | h) | h) | h) | h) | h) | h) | h) | h) | h) | h) | h
  · exact hf _ _ (by decide) h
  · exact hf _ _ (by decide) h
  · exact hf _ _ (by decide) h
  · exact hf _ _ (by decide) h
  · exact hf _ _ (by decide) h
  · exact hf _ _ (by decide) h
  · exact hf _ _ (by decide) h
  · exact hn _ _ (by decide) h
  · exact hn _ _ (by decide) h
  · exact hn _ _ (by decide) h
  · exact hf _ _ (by decide) h
  · exact hn _ _ (by decide) h
theorem items_len (c : Ctl) : (itemsF c).length ≤ 12 := by
  unfold itemsF
  simp only [List.length_append, List.length_nil]
  have h0 := flagI_len c.noStore ⟨#[110, 111, 45, 115, 116, 111, 114, 101]⟩
  have h1 := flagI_len c.noCache ⟨#[110, 111, 45, 99, 97, 99, 104, 101]⟩
  have h2 := flagI_len c.priv ⟨#[112, 114, 105, 118, 97, 116, 101]⟩
  have h3 := flagI_len c.pub ⟨#[112, 117, 98, 108, 105, 99]⟩
  have h4 := flagI_len c.must ⟨#[109, 117, 115, 116, 45, 114, 101, 118, 97, 108, 105, 100, 97, 116, 101]⟩
  have h5 := flagI_len c.prox ⟨#[112, 114, 111, 120, 121, 45, 114, 101, 118, 97, 108, 105, 100, 97, 116, 101]⟩
  have h6 := flagI_len c.only ⟨#[111, 110, 108, 121, 45, 105, 102, 45, 99, 97, 99, 104, 101, 100]⟩
  have h7 := numI_len c.maxA ⟨#[109, 97, 120, 45, 97, 103, 101]⟩
  have h8 := numI_len c.sMax ⟨#[115, 45, 109, 97, 120, 97, 103, 101]⟩
  have h9 := numI_len c.minF ⟨#[109, 105, 110, 45, 102, 114, 101, 115, 104]⟩
  have h10 := flagI_len c.anyStale ⟨#[109, 97, 120, 45, 115, 116, 97, 108, 101]⟩
  have h11 := numI_len c.maxS ⟨#[109, 97, 120, 45, 115, 116, 97, 108, 101]⟩
  omega
theorem join_len (l : List (List UInt8)) (m : Nat) (h : ∀ x ∈ l, x.length ≤ m) : (Lib.join l [44, 32]).length ≤ l.length * (m + 2) := by
  cases l with
  | nil => simp [Lib.join]
  | cons a l =>
    rw [Lib.join_cons, List.length_append]
    have ha := h a (by simp)
    have ht : ∀ (l : List (List UInt8)), (∀ x ∈ l, x.length ≤ m) → (Lib.joinTail [44, 32] l).length ≤ l.length * (m + 2) := by
      intro l
      induction l with
      | nil => intro _; simp [Lib.joinTail]
      | cons b l ih =>
        intro hl
        have := hl b (by simp)
        have := ih (fun x hx => hl x (by simp [hx]))
        have e : Lib.joinTail [44, 32] (b :: l) = [44, 32] ++ b ++ Lib.joinTail [44, 32] l := rfl
        rw [e]
        simp only [List.length_append, List.length_cons, List.length_nil, Nat.add_mul]
        omega
    have := ht l (fun x hx => h x (by simp [hx]))
    rw [List.length_cons, Nat.add_mul]
    omega
theorem text_len (c : Ctl) : (textF c).length ≤ 1488 := by
  have := join_len ((itemsF c).map (·.data.toList)) 122 (by
    intro x hx
    obtain ⟨y, hy, rfl⟩ := List.mem_map.1 hx
    have := item_size c y hy
    rw [size_list]; exact this)
  have h2 := items_len c
  unfold textF
  rw [List.length_map] at this
  have : (itemsF c).length * 124 ≤ 12 * 124 := Nat.mul_le_mul_right _ h2
  omega
def TextPost (l : List UInt8) (w : World) (e : Ending) (w' : World) : Prop := e = .returned (.string ⟨l.toArray⟩) ∧ Below w.heap.size w w'
set_option maxRecDepth 100000 in
set_option maxHeartbeats 16000000 in
theorem text_any (c : Ctl) (w : World) (hc : c.wide) (ht : TabW w) (hw : 1 < w.heap.size) : Calls Tryd.prog 11 #[ctlV c] w (TextPost (textF c) w) := by
  obtain ⟨w0, hw0⟩ : ∃ w0, (w.alloc (.cells #[.bool c.noStore, .bool c.noCache, .bool c.priv, .bool c.pub, .bool c.must, .bool c.prox, .bool c.only, .bool c.anyStale, .int .i64 c.maxA, .int .i64 c.sMax, .int .i64 c.minF, .int .i64 c.maxS] 23)).alloc (.cells #[.slice none 0 0] 33) = w0 := ⟨_, rfl⟩
  have hz0 : w0.heap.size = w.heap.size + 2 := by rw [← hw0]; simp
  have hb0 : Below w.heap.size w w0 := by rw [← hw0]; exact (((Spares.refl nowhere w).alloc _).alloc _).below0
  have hc0 : CtlAt w0 w.heap.size c := by
    unfold CtlAt
    rw [← hw0, Below.heap_alloc _ _ _ (by simp)]
    exact heap_alloc_new w _
  have hp0 : PartsAt w0 (w.heap.size + 1) [] := by
    refine ⟨.slice none 0 0, ?_, World.ownsRow_nil _ _ _ _⟩
    have e := heap_alloc_new (w.alloc (.cells #[.bool c.noStore, .bool c.noCache, .bool c.priv, .bool c.pub, .bool c.must, .bool c.prox, .bool c.only, .bool c.anyStale, .int .i64 c.maxA, .int .i64 c.sMax, .int .i64 c.minF, .int .i64 c.maxS] 23)) (.cells #[.slice none 0 0] 33)
    have hz : (w.alloc (.cells #[.bool c.noStore, .bool c.noCache, .bool c.priv, .bool c.pub, .bool c.must, .bool c.prox, .bool c.only, .bool c.anyStale, .int .i64 c.maxA, .int .i64 c.sMax, .int .i64 c.minF, .int .i64 c.maxS] 23)).heap.size = w.heap.size + 1 := by simp
    rw [hz] at e
    rw [← hw0]
    exact e
  have HK : Hid (∀ x, Below (w.heap.size + 1) w0 x → (CtlAt x w.heap.size c ∧ TabW x) ∧ Below w.heap.size w x) := Lib.hid (fun x hx => by
    have hbx := hb0.trans (hx.mono (by omega))
    exact ⟨⟨(hx.block _ (by omega)).trans hc0, ht.below hbx⟩, hbx⟩)
  have hmf : ∀ (fn : Fn) (first cap : Array Value) (w : World), (Instr.makeFunc fn first cap).run Tryd.prog w = .ok (.func fn first cap) w := fun _ _ _ _ => rfl
  have HW0 := Lib.hid hw0
  have HCW := Lib.hid hc
  have HL := Lib.hid (text_len c)
  have HWS := Lib.hid hw
  have HLEN := Lib.hid (items_len c)
  have HTF : Hid (textF c = Lib.join ((itemsF c).map (·.data.toList)) (⟨#[44, 32]⟩ : ByteArray).data.toList) := Lib.hid rfl
  obtain ⟨n0, n1, n2, n3, n4, n5, n6, n7, n8, n9, n10, n11⟩ := ctl_reads hc0
  have hbx0 : Below (w.heap.size + 1) w0 w0 := Below.refl _ _
  have hx0 := HK.out w0 hbx0
  have HX0 := Lib.hid hx0
  have HBX0 := Lib.hid hbx0
  clear hb0 hc0 hw0 hc ht hw hx0 hbx0 hz0
  unfold ctlV TextPost
  go_enter Tryd.func11, Tryd.ntmps11
  go_wp2_with fail
  change Calls _ _ _ ((w.alloc (.cells #[.bool c.noStore, .bool c.noCache, .bool c.priv, .bool c.pub, .bool c.must, .bool c.prox, .bool c.only, .bool c.anyStale, .int .i64 c.maxA, .int .i64 c.sMax, .int .i64 c.minF, .int .i64 c.maxS] 23)).alloc (.cells #[.slice none 0 0] 33)) _
  rw [HW0.out]
  refine (flag_any c.noStore ⟨#[110, 111, 45, 115, 116, 111, 114, 101]⟩ (w.heap.size + 1) ([] : List ByteArray) w0 hp0 (by decide)).mono ?_
  rintro e w1 ⟨rfl, hp1, hbn⟩
  have hbx := HBX0.out.trans hbn
  have hx := HK.out w1 hbx
  have HX1 := Lib.hid hx
  have HBX1 := Lib.hid hbx
  clear n0 n1 n2 n3 n4 n5 n6 n7 n8 n9 n10 n11 hbn hbx hp0
  obtain ⟨n0, n1, n2, n3, n4, n5, n6, n7, n8, n9, n10, n11⟩ := ctl_reads hx.1.1
  clear hx
  go_wp2_with fail
  refine (flag_any c.noCache ⟨#[110, 111, 45, 99, 97, 99, 104, 101]⟩ (w.heap.size + 1) (([] : List ByteArray) ++ flagI c.noStore ⟨#[110, 111, 45, 115, 116, 111, 114, 101]⟩) w1 hp1 (by show ((([] : List ByteArray) ++ flagI c.noStore ⟨#[110, 111, 45, 115, 116, 111, 114, 101]⟩)).length ≤ 1000; simp only [List.length_append, List.length_nil]; have h0 := flagI_len c.noStore ⟨#[110, 111, 45, 115, 116, 111, 114, 101]⟩; omega)).mono ?_
  rintro e w2 ⟨rfl, hp2, hbn⟩
  have hbx := HBX1.out.trans hbn
  have hx := HK.out w2 hbx
  have HX2 := Lib.hid hx
  have HBX2 := Lib.hid hbx
  clear n0 n1 n2 n3 n4 n5 n6 n7 n8 n9 n10 n11 hbn hbx hp1
  obtain ⟨n0, n1, n2, n3, n4, n5, n6, n7, n8, n9, n10, n11⟩ := ctl_reads hx.1.1
  clear hx
  go_wp2_with fail
  refine (flag_any c.priv ⟨#[112, 114, 105, 118, 97, 116, 101]⟩ (w.heap.size + 1) ((([] : List ByteArray) ++ flagI c.noStore ⟨#[110, 111, 45, 115, 116, 111, 114, 101]⟩) ++ flagI c.noCache ⟨#[110, 111, 45, 99, 97, 99, 104, 101]⟩) w2 hp2 (by show (((([] : List ByteArray) ++ flagI c.noStore ⟨#[110, 111, 45, 115, 116, 111, 114, 101]⟩) ++ flagI c.noCache ⟨#[110, 111, 45, 99, 97, 99, 104, 101]⟩)).length ≤ 1000; simp only [List.length_append, List.length_nil]; have h0 := flagI_len c.noStore ⟨#[110, 111, 45, 115, 116, 111, 114, 101]⟩; have h1 := flagI_len c.noCache ⟨#[110, 111, 45, 99, 97, 99, 104, 101]⟩; omega)).mono ?_
  rintro e w3 ⟨rfl, hp3, hbn⟩
  have hbx := HBX2.out.trans hbn
  have hx := HK.out w3 hbx
  have HX3 := Lib.hid hx
  have HBX3 := Lib.hid hbx
  clear n0 n1 n2 n3 n4 n5 n6 n7 n8 n9 n10 n11 hbn hbx hp2
  obtain ⟨n0, n1, n2, n3, n4, n5, n6, n7, n8, n9, n10, n11⟩ := ctl_reads hx.1.1
  clear hx
  go_wp2_with fail
  refine (flag_any c.pub ⟨#[112, 117, 98, 108, 105, 99]⟩ (w.heap.size + 1) (((([] : List ByteArray) ++ flagI c.noStore ⟨#[110, 111, 45, 115, 116, 111, 114, 101]⟩) ++ flagI c.noCache ⟨#[110, 111, 45, 99, 97, 99, 104, 101]⟩) ++ flagI c.priv ⟨#[112, 114, 105, 118, 97, 116, 101]⟩) w3 hp3 (by show ((((([] : List ByteArray) ++ flagI c.noStore ⟨#[110, 111, 45, 115, 116, 111, 114, 101]⟩) ++ flagI c.noCache ⟨#[110, 111, 45, 99, 97, 99, 104, 101]⟩) ++ flagI c.priv ⟨#[112, 114, 105, 118, 97, 116, 101]⟩)).length ≤ 1000; simp only [List.length_append, List.length_nil]; have h0 := flagI_len c.noStore ⟨#[110, 111, 45, 115, 116, 111, 114, 101]⟩; have h1 := flagI_len c.noCache ⟨#[110, 111, 45, 99, 97, 99, 104, 101]⟩; have h2 := flagI_len c.priv ⟨#[112, 114, 105, 118, 97, 116, 101]⟩; omega)).mono ?_
  rintro e w4 ⟨rfl, hp4, hbn⟩
  have hbx := HBX3.out.trans hbn
  have hx := HK.out w4 hbx
  have HX4 := Lib.hid hx
  have HBX4 := Lib.hid hbx
  clear n0 n1 n2 n3 n4 n5 n6 n7 n8 n9 n10 n11 hbn hbx hp3
  obtain ⟨n0, n1, n2, n3, n4, n5, n6, n7, n8, n9, n10, n11⟩ := ctl_reads hx.1.1
  clear hx
  go_wp2_with fail
  refine (flag_any c.must ⟨#[109, 117, 115, 116, 45, 114, 101, 118, 97, 108, 105, 100, 97, 116, 101]⟩ (w.heap.size + 1) ((((([] : List ByteArray) ++ flagI c.noStore ⟨#[110, 111, 45, 115, 116, 111, 114, 101]⟩) ++ flagI c.noCache ⟨#[110, 111, 45, 99, 97, 99, 104, 101]⟩) ++ flagI c.priv ⟨#[112, 114, 105, 118, 97, 116, 101]⟩) ++ flagI c.pub ⟨#[112, 117, 98, 108, 105, 99]⟩) w4 hp4 (by show (((((([] : List ByteArray) ++ flagI c.noStore ⟨#[110, 111, 45, 115, 116, 111, 114, 101]⟩) ++ flagI c.noCache ⟨#[110, 111, 45, 99, 97, 99, 104, 101]⟩) ++ flagI c.priv ⟨#[112, 114, 105, 118, 97, 116, 101]⟩) ++ flagI c.pub ⟨#[112, 117, 98, 108, 105, 99]⟩)).length ≤ 1000; simp only [List.length_append, List.length_nil]; have h0 := flagI_len c.noStore ⟨#[110, 111, 45, 115, 116, 111, 114, 101]⟩; have h1 := flagI_len c.noCache ⟨#[110, 111, 45, 99, 97, 99, 104, 101]⟩; have h2 := flagI_len c.priv ⟨#[112, 114, 105, 118, 97, 116, 101]⟩; have h3 := flagI_len c.pub ⟨#[112, 117, 98, 108, 105, 99]⟩; omega)).mono ?_
  rintro e w5 ⟨rfl, hp5, hbn⟩
  have hbx := HBX4.out.trans hbn
  have hx := HK.out w5 hbx
  have HX5 := Lib.hid hx
  have HBX5 := Lib.hid hbx
  clear n0 n1 n2 n3 n4 n5 n6 n7 n8 n9 n10 n11 hbn hbx hp4
  obtain ⟨n0, n1, n2, n3, n4, n5, n6, n7, n8, n9, n10, n11⟩ := ctl_reads hx.1.1
  clear hx
  go_wp2_with fail
  refine (flag_any c.prox ⟨#[112, 114, 111, 120, 121, 45, 114, 101, 118, 97, 108, 105, 100, 97, 116, 101]⟩ (w.heap.size + 1) (((((([] : List ByteArray) ++ flagI c.noStore ⟨#[110, 111, 45, 115, 116, 111, 114, 101]⟩) ++ flagI c.noCache ⟨#[110, 111, 45, 99, 97, 99, 104, 101]⟩) ++ flagI c.priv ⟨#[112, 114, 105, 118, 97, 116, 101]⟩) ++ flagI c.pub ⟨#[112, 117, 98, 108, 105, 99]⟩) ++ flagI c.must ⟨#[109, 117, 115, 116, 45, 114, 101, 118, 97, 108, 105, 100, 97, 116, 101]⟩) w5 hp5 (by show ((((((([] : List ByteArray) ++ flagI c.noStore ⟨#[110, 111, 45, 115, 116, 111, 114, 101]⟩) ++ flagI c.noCache ⟨#[110, 111, 45, 99, 97, 99, 104, 101]⟩) ++ flagI c.priv ⟨#[112, 114, 105, 118, 97, 116, 101]⟩) ++ flagI c.pub ⟨#[112, 117, 98, 108, 105, 99]⟩) ++ flagI c.must ⟨#[109, 117, 115, 116, 45, 114, 101, 118, 97, 108, 105, 100, 97, 116, 101]⟩)).length ≤ 1000; simp only [List.length_append, List.length_nil]; have h0 := flagI_len c.noStore ⟨#[110, 111, 45, 115, 116, 111, 114, 101]⟩; have h1 := flagI_len c.noCache ⟨#[110, 111, 45, 99, 97, 99, 104, 101]⟩; have h2 := flagI_len c.priv ⟨#[112, 114, 105, 118, 97, 116, 101]⟩; have h3 := flagI_len c.pub ⟨#[112, 117, 98, 108, 105, 99]⟩; have h4 := flagI_len c.must ⟨#[109, 117, 115, 116, 45, 114, 101, 118, 97, 108, 105, 100, 97, 116, 101]⟩; omega)).mono ?_
  rintro e w6 ⟨rfl, hp6, hbn⟩
  have hbx := HBX5.out.trans hbn
  have hx := HK.out w6 hbx
  have HX6 := Lib.hid hx
  have HBX6 := Lib.hid hbx
  clear n0 n1 n2 n3 n4 n5 n6 n7 n8 n9 n10 n11 hbn hbx hp5
  obtain ⟨n0, n1, n2, n3, n4, n5, n6, n7, n8, n9, n10, n11⟩ := ctl_reads hx.1.1
  clear hx
  go_wp2_with fail
  refine (flag_any c.only ⟨#[111, 110, 108, 121, 45, 105, 102, 45, 99, 97, 99, 104, 101, 100]⟩ (w.heap.size + 1) ((((((([] : List ByteArray) ++ flagI c.noStore ⟨#[110, 111, 45, 115, 116, 111, 114, 101]⟩) ++ flagI c.noCache ⟨#[110, 111, 45, 99, 97, 99, 104, 101]⟩) ++ flagI c.priv ⟨#[112, 114, 105, 118, 97, 116, 101]⟩) ++ flagI c.pub ⟨#[112, 117, 98, 108, 105, 99]⟩) ++ flagI c.must ⟨#[109, 117, 115, 116, 45, 114, 101, 118, 97, 108, 105, 100, 97, 116, 101]⟩) ++ flagI c.prox ⟨#[112, 114, 111, 120, 121, 45, 114, 101, 118, 97, 108, 105, 100, 97, 116, 101]⟩) w6 hp6 (by show (((((((([] : List ByteArray) ++ flagI c.noStore ⟨#[110, 111, 45, 115, 116, 111, 114, 101]⟩) ++ flagI c.noCache ⟨#[110, 111, 45, 99, 97, 99, 104, 101]⟩) ++ flagI c.priv ⟨#[112, 114, 105, 118, 97, 116, 101]⟩) ++ flagI c.pub ⟨#[112, 117, 98, 108, 105, 99]⟩) ++ flagI c.must ⟨#[109, 117, 115, 116, 45, 114, 101, 118, 97, 108, 105, 100, 97, 116, 101]⟩) ++ flagI c.prox ⟨#[112, 114, 111, 120, 121, 45, 114, 101, 118, 97, 108, 105, 100, 97, 116, 101]⟩)).length ≤ 1000; simp only [List.length_append, List.length_nil]; have h0 := flagI_len c.noStore ⟨#[110, 111, 45, 115, 116, 111, 114, 101]⟩; have h1 := flagI_len c.noCache ⟨#[110, 111, 45, 99, 97, 99, 104, 101]⟩; have h2 := flagI_len c.priv ⟨#[112, 114, 105, 118, 97, 116, 101]⟩; have h3 := flagI_len c.pub ⟨#[112, 117, 98, 108, 105, 99]⟩; have h4 := flagI_len c.must ⟨#[109, 117, 115, 116, 45, 114, 101, 118, 97, 108, 105, 100, 97, 116, 101]⟩; have h5 := flagI_len c.prox ⟨#[112, 114, 111, 120, 121, 45, 114, 101, 118, 97, 108, 105, 100, 97, 116, 101]⟩; omega)).mono ?_
  rintro e w7 ⟨rfl, hp7, hbn⟩
  have hbx := HBX6.out.trans hbn
  have hx := HK.out w7 hbx
  have HX7 := Lib.hid hx
  have HBX7 := Lib.hid hbx
  clear n0 n1 n2 n3 n4 n5 n6 n7 n8 n9 n10 n11 hbn hbx hp6
  obtain ⟨n0, n1, n2, n3, n4, n5, n6, n7, n8, n9, n10, n11⟩ := ctl_reads hx.1.1
  clear hx
  go_wp2_with fail
  refine (number_any c.maxA ⟨#[109, 97, 120, 45, 97, 103, 101]⟩ (w.heap.size + 1) (((((((([] : List ByteArray) ++ flagI c.noStore ⟨#[110, 111, 45, 115, 116, 111, 114, 101]⟩) ++ flagI c.noCache ⟨#[110, 111, 45, 99, 97, 99, 104, 101]⟩) ++ flagI c.priv ⟨#[112, 114, 105, 118, 97, 116, 101]⟩) ++ flagI c.pub ⟨#[112, 117, 98, 108, 105, 99]⟩) ++ flagI c.must ⟨#[109, 117, 115, 116, 45, 114, 101, 118, 97, 108, 105, 100, 97, 116, 101]⟩) ++ flagI c.prox ⟨#[112, 114, 111, 120, 121, 45, 114, 101, 118, 97, 108, 105, 100, 97, 116, 101]⟩) ++ flagI c.only ⟨#[111, 110, 108, 121, 45, 105, 102, 45, 99, 97, 99, 104, 101, 100]⟩) w7 hp7 (by show ((((((((([] : List ByteArray) ++ flagI c.noStore ⟨#[110, 111, 45, 115, 116, 111, 114, 101]⟩) ++ flagI c.noCache ⟨#[110, 111, 45, 99, 97, 99, 104, 101]⟩) ++ flagI c.priv ⟨#[112, 114, 105, 118, 97, 116, 101]⟩) ++ flagI c.pub ⟨#[112, 117, 98, 108, 105, 99]⟩) ++ flagI c.must ⟨#[109, 117, 115, 116, 45, 114, 101, 118, 97, 108, 105, 100, 97, 116, 101]⟩) ++ flagI c.prox ⟨#[112, 114, 111, 120, 121, 45, 114, 101, 118, 97, 108, 105, 100, 97, 116, 101]⟩) ++ flagI c.only ⟨#[111, 110, 108, 121, 45, 105, 102, 45, 99, 97, 99, 104, 101, 100]⟩)).length ≤ 1000; simp only [List.length_append, List.length_nil]; have h0 := flagI_len c.noStore ⟨#[110, 111, 45, 115, 116, 111, 114, 101]⟩; have h1 := flagI_len c.noCache ⟨#[110, 111, 45, 99, 97, 99, 104, 101]⟩; have h2 := flagI_len c.priv ⟨#[112, 114, 105, 118, 97, 116, 101]⟩; have h3 := flagI_len c.pub ⟨#[112, 117, 98, 108, 105, 99]⟩; have h4 := flagI_len c.must ⟨#[109, 117, 115, 116, 45, 114, 101, 118, 97, 108, 105, 100, 97, 116, 101]⟩; have h5 := flagI_len c.prox ⟨#[112, 114, 111, 120, 121, 45, 114, 101, 118, 97, 108, 105, 100, 97, 116, 101]⟩; have h6 := flagI_len c.only ⟨#[111, 110, 108, 121, 45, 105, 102, 45, 99, 97, 99, 104, 101, 100]⟩; omega) HX7.out.1.2 HCW.out.1.2 HCW.out.1.1 (by have := HWS.out; omega) (by decide)).mono ?_
  rintro e w8 ⟨rfl, hp8, hbn⟩
  have hbx := HBX7.out.trans hbn
  have hx := HK.out w8 hbx
  have HX8 := Lib.hid hx
  have HBX8 := Lib.hid hbx
  clear n0 n1 n2 n3 n4 n5 n6 n7 n8 n9 n10 n11 hbn hbx hp7
  obtain ⟨n0, n1, n2, n3, n4, n5, n6, n7, n8, n9, n10, n11⟩ := ctl_reads hx.1.1
  clear hx
  go_wp2_with fail
  refine (number_any c.sMax ⟨#[115, 45, 109, 97, 120, 97, 103, 101]⟩ (w.heap.size + 1) ((((((((([] : List ByteArray) ++ flagI c.noStore ⟨#[110, 111, 45, 115, 116, 111, 114, 101]⟩) ++ flagI c.noCache ⟨#[110, 111, 45, 99, 97, 99, 104, 101]⟩) ++ flagI c.priv ⟨#[112, 114, 105, 118, 97, 116, 101]⟩) ++ flagI c.pub ⟨#[112, 117, 98, 108, 105, 99]⟩) ++ flagI c.must ⟨#[109, 117, 115, 116, 45, 114, 101, 118, 97, 108, 105, 100, 97, 116, 101]⟩) ++ flagI c.prox ⟨#[112, 114, 111, 120, 121, 45, 114, 101, 118, 97, 108, 105, 100, 97, 116, 101]⟩) ++ flagI c.only ⟨#[111, 110, 108, 121, 45, 105, 102, 45, 99, 97, 99, 104, 101, 100]⟩) ++ numI c.maxA ⟨#[109, 97, 120, 45, 97, 103, 101]⟩) w8 hp8 (by show (((((((((([] : List ByteArray) ++ flagI c.noStore ⟨#[110, 111, 45, 115, 116, 111, 114, 101]⟩) ++ flagI c.noCache ⟨#[110, 111, 45, 99, 97, 99, 104, 101]⟩) ++ flagI c.priv ⟨#[112, 114, 105, 118, 97, 116, 101]⟩) ++ flagI c.pub ⟨#[112, 117, 98, 108, 105, 99]⟩) ++ flagI c.must ⟨#[109, 117, 115, 116, 45, 114, 101, 118, 97, 108, 105, 100, 97, 116, 101]⟩) ++ flagI c.prox ⟨#[112, 114, 111, 120, 121, 45, 114, 101, 118, 97, 108, 105, 100, 97, 116, 101]⟩) ++ flagI c.only ⟨#[111, 110, 108, 121, 45, 105, 102, 45, 99, 97, 99, 104, 101, 100]⟩) ++ numI c.maxA ⟨#[109, 97, 120, 45, 97, 103, 101]⟩)).length ≤ 1000; simp only [List.length_append, List.length_nil]; have h0 := flagI_len c.noStore ⟨#[110, 111, 45, 115, 116, 111, 114, 101]⟩; have h1 := flagI_len c.noCache ⟨#[110, 111, 45, 99, 97, 99, 104, 101]⟩; have h2 := flagI_len c.priv ⟨#[112, 114, 105, 118, 97, 116, 101]⟩; have h3 := flagI_len c.pub ⟨#[112, 117, 98, 108, 105, 99]⟩; have h4 := flagI_len c.must ⟨#[109, 117, 115, 116, 45, 114, 101, 118, 97, 108, 105, 100, 97, 116, 101]⟩; have h5 := flagI_len c.prox ⟨#[112, 114, 111, 120, 121, 45, 114, 101, 118, 97, 108, 105, 100, 97, 116, 101]⟩; have h6 := flagI_len c.only ⟨#[111, 110, 108, 121, 45, 105, 102, 45, 99, 97, 99, 104, 101, 100]⟩; have h7 := numI_len c.maxA ⟨#[109, 97, 120, 45, 97, 103, 101]⟩; omega) HX8.out.1.2 HCW.out.2.1.2 HCW.out.2.1.1 (by have := HWS.out; omega) (by decide)).mono ?_
  rintro e w9 ⟨rfl, hp9, hbn⟩
  have hbx := HBX8.out.trans hbn
  have hx := HK.out w9 hbx
  have HX9 := Lib.hid hx
  have HBX9 := Lib.hid hbx
  clear n0 n1 n2 n3 n4 n5 n6 n7 n8 n9 n10 n11 hbn hbx hp8
  obtain ⟨n0, n1, n2, n3, n4, n5, n6, n7, n8, n9, n10, n11⟩ := ctl_reads hx.1.1
  clear hx
  go_wp2_with fail
  refine (number_any c.minF ⟨#[109, 105, 110, 45, 102, 114, 101, 115, 104]⟩ (w.heap.size + 1) (((((((((([] : List ByteArray) ++ flagI c.noStore ⟨#[110, 111, 45, 115, 116, 111, 114, 101]⟩) ++ flagI c.noCache ⟨#[110, 111, 45, 99, 97, 99, 104, 101]⟩) ++ flagI c.priv ⟨#[112, 114, 105, 118, 97, 116, 101]⟩) ++ flagI c.pub ⟨#[112, 117, 98, 108, 105, 99]⟩) ++ flagI c.must ⟨#[109, 117, 115, 116, 45, 114, 101, 118, 97, 108, 105, 100, 97, 116, 101]⟩) ++ flagI c.prox ⟨#[112, 114, 111, 120, 121, 45, 114, 101, 118, 97, 108, 105, 100, 97, 116, 101]⟩) ++ flagI c.only ⟨#[111, 110, 108, 121, 45, 105, 102, 45, 99, 97, 99, 104, 101, 100]⟩) ++ numI c.maxA ⟨#[109, 97, 120, 45, 97, 103, 101]⟩) ++ numI c.sMax ⟨#[115, 45, 109, 97, 120, 97, 103, 101]⟩) w9 hp9 (by show ((((((((((([] : List ByteArray) ++ flagI c.noStore ⟨#[110, 111, 45, 115, 116, 111, 114, 101]⟩) ++ flagI c.noCache ⟨#[110, 111, 45, 99, 97, 99, 104, 101]⟩) ++ flagI c.priv ⟨#[112, 114, 105, 118, 97, 116, 101]⟩) ++ flagI c.pub ⟨#[112, 117, 98, 108, 105, 99]⟩) ++ flagI c.must ⟨#[109, 117, 115, 116, 45, 114, 101, 118, 97, 108, 105, 100, 97, 116, 101]⟩) ++ flagI c.prox ⟨#[112, 114, 111, 120, 121, 45, 114, 101, 118, 97, 108, 105, 100, 97, 116, 101]⟩) ++ flagI c.only ⟨#[111, 110, 108, 121, 45, 105, 102, 45, 99, 97, 99, 104, 101, 100]⟩) ++ numI c.maxA ⟨#[109, 97, 120, 45, 97, 103, 101]⟩) ++ numI c.sMax ⟨#[115, 45, 109, 97, 120, 97, 103, 101]⟩)).length ≤ 1000; simp only [List.length_append, List.length_nil]; have h0 := flagI_len c.noStore ⟨#[110, 111, 45, 115, 116, 111, 114, 101]⟩; have h1 := flagI_len c.noCache ⟨#[110, 111, 45, 99, 97, 99, 104, 101]⟩; have h2 := flagI_len c.priv ⟨#[112, 114, 105, 118, 97, 116, 101]⟩; have h3 := flagI_len c.pub ⟨#[112, 117, 98, 108, 105, 99]⟩; have h4 := flagI_len c.must ⟨#[109, 117, 115, 116, 45, 114, 101, 118, 97, 108, 105, 100, 97, 116, 101]⟩; have h5 := flagI_len c.prox ⟨#[112, 114, 111, 120, 121, 45, 114, 101, 118, 97, 108, 105, 100, 97, 116, 101]⟩; have h6 := flagI_len c.only ⟨#[111, 110, 108, 121, 45, 105, 102, 45, 99, 97, 99, 104, 101, 100]⟩; have h7 := numI_len c.maxA ⟨#[109, 97, 120, 45, 97, 103, 101]⟩; have h8 := numI_len c.sMax ⟨#[115, 45, 109, 97, 120, 97, 103, 101]⟩; omega) HX9.out.1.2 HCW.out.2.2.1.2 HCW.out.2.2.1.1 (by have := HWS.out; omega) (by decide)).mono ?_
  rintro e w10 ⟨rfl, hp10, hbn⟩
  have hbx := HBX9.out.trans hbn
  have hx := HK.out w10 hbx
  have HX10 := Lib.hid hx
  have HBX10 := Lib.hid hbx
  clear n0 n1 n2 n3 n4 n5 n6 n7 n8 n9 n10 n11 hbn hbx hp9
  obtain ⟨n0, n1, n2, n3, n4, n5, n6, n7, n8, n9, n10, n11⟩ := ctl_reads hx.1.1
  clear hx
  go_wp2_with fail
  refine (flag_any c.anyStale ⟨#[109, 97, 120, 45, 115, 116, 97, 108, 101]⟩ (w.heap.size + 1) ((((((((((([] : List ByteArray) ++ flagI c.noStore ⟨#[110, 111, 45, 115, 116, 111, 114, 101]⟩) ++ flagI c.noCache ⟨#[110, 111, 45, 99, 97, 99, 104, 101]⟩) ++ flagI c.priv ⟨#[112, 114, 105, 118, 97, 116, 101]⟩) ++ flagI c.pub ⟨#[112, 117, 98, 108, 105, 99]⟩) ++ flagI c.must ⟨#[109, 117, 115, 116, 45, 114, 101, 118, 97, 108, 105, 100, 97, 116, 101]⟩) ++ flagI c.prox ⟨#[112, 114, 111, 120, 121, 45, 114, 101, 118, 97, 108, 105, 100, 97, 116, 101]⟩) ++ flagI c.only ⟨#[111, 110, 108, 121, 45, 105, 102, 45, 99, 97, 99, 104, 101, 100]⟩) ++ numI c.maxA ⟨#[109, 97, 120, 45, 97, 103, 101]⟩) ++ numI c.sMax ⟨#[115, 45, 109, 97, 120, 97, 103, 101]⟩) ++ numI c.minF ⟨#[109, 105, 110, 45, 102, 114, 101, 115, 104]⟩) w10 hp10 (by show (((((((((((([] : List ByteArray) ++ flagI c.noStore ⟨#[110, 111, 45, 115, 116, 111, 114, 101]⟩) ++ flagI c.noCache ⟨#[110, 111, 45, 99, 97, 99, 104, 101]⟩) ++ flagI c.priv ⟨#[112, 114, 105, 118, 97, 116, 101]⟩) ++ flagI c.pub ⟨#[112, 117, 98, 108, 105, 99]⟩) ++ flagI c.must ⟨#[109, 117, 115, 116, 45, 114, 101, 118, 97, 108, 105, 100, 97, 116, 101]⟩) ++ flagI c.prox ⟨#[112, 114, 111, 120, 121, 45, 114, 101, 118, 97, 108, 105, 100, 97, 116, 101]⟩) ++ flagI c.only ⟨#[111, 110, 108, 121, 45, 105, 102, 45, 99, 97, 99, 104, 101, 100]⟩) ++ numI c.maxA ⟨#[109, 97, 120, 45, 97, 103, 101]⟩) ++ numI c.sMax ⟨#[115, 45, 109, 97, 120, 97, 103, 101]⟩) ++ numI c.minF ⟨#[109, 105, 110, 45, 102, 114, 101, 115, 104]⟩)).length ≤ 1000; simp only [List.length_append, List.length_nil]; have h0 := flagI_len c.noStore ⟨#[110, 111, 45, 115, 116, 111, 114, 101]⟩; have h1 := flagI_len c.noCache ⟨#[110, 111, 45, 99, 97, 99, 104, 101]⟩; have h2 := flagI_len c.priv ⟨#[112, 114, 105, 118, 97, 116, 101]⟩; have h3 := flagI_len c.pub ⟨#[112, 117, 98, 108, 105, 99]⟩; have h4 := flagI_len c.must ⟨#[109, 117, 115, 116, 45, 114, 101, 118, 97, 108, 105, 100, 97, 116, 101]⟩; have h5 := flagI_len c.prox ⟨#[112, 114, 111, 120, 121, 45, 114, 101, 118, 97, 108, 105, 100, 97, 116, 101]⟩; have h6 := flagI_len c.only ⟨#[111, 110, 108, 121, 45, 105, 102, 45, 99, 97, 99, 104, 101, 100]⟩; have h7 := numI_len c.maxA ⟨#[109, 97, 120, 45, 97, 103, 101]⟩; have h8 := numI_len c.sMax ⟨#[115, 45, 109, 97, 120, 97, 103, 101]⟩; have h9 := numI_len c.minF ⟨#[109, 105, 110, 45, 102, 114, 101, 115, 104]⟩; omega)).mono ?_
  rintro e w11 ⟨rfl, hp11, hbn⟩
  have hbx := HBX10.out.trans hbn
  have hx := HK.out w11 hbx
  have HX11 := Lib.hid hx
  have HBX11 := Lib.hid hbx
  clear n0 n1 n2 n3 n4 n5 n6 n7 n8 n9 n10 n11 hbn hbx hp10
  obtain ⟨n0, n1, n2, n3, n4, n5, n6, n7, n8, n9, n10, n11⟩ := ctl_reads hx.1.1
  clear hx
  go_wp2_with fail
  refine (number_any c.maxS ⟨#[109, 97, 120, 45, 115, 116, 97, 108, 101]⟩ (w.heap.size + 1) (((((((((((([] : List ByteArray) ++ flagI c.noStore ⟨#[110, 111, 45, 115, 116, 111, 114, 101]⟩) ++ flagI c.noCache ⟨#[110, 111, 45, 99, 97, 99, 104, 101]⟩) ++ flagI c.priv ⟨#[112, 114, 105, 118, 97, 116, 101]⟩) ++ flagI c.pub ⟨#[112, 117, 98, 108, 105, 99]⟩) ++ flagI c.must ⟨#[109, 117, 115, 116, 45, 114, 101, 118, 97, 108, 105, 100, 97, 116, 101]⟩) ++ flagI c.prox ⟨#[112, 114, 111, 120, 121, 45, 114, 101, 118, 97, 108, 105, 100, 97, 116, 101]⟩) ++ flagI c.only ⟨#[111, 110, 108, 121, 45, 105, 102, 45, 99, 97, 99, 104, 101, 100]⟩) ++ numI c.maxA ⟨#[109, 97, 120, 45, 97, 103, 101]⟩) ++ numI c.sMax ⟨#[115, 45, 109, 97, 120, 97, 103, 101]⟩) ++ numI c.minF ⟨#[109, 105, 110, 45, 102, 114, 101, 115, 104]⟩) ++ flagI c.anyStale ⟨#[109, 97, 120, 45, 115, 116, 97, 108, 101]⟩) w11 hp11 (by show ((((((((((((([] : List ByteArray) ++ flagI c.noStore ⟨#[110, 111, 45, 115, 116, 111, 114, 101]⟩) ++ flagI c.noCache ⟨#[110, 111, 45, 99, 97, 99, 104, 101]⟩) ++ flagI c.priv ⟨#[112, 114, 105, 118, 97, 116, 101]⟩) ++ flagI c.pub ⟨#[112, 117, 98, 108, 105, 99]⟩) ++ flagI c.must ⟨#[109, 117, 115, 116, 45, 114, 101, 118, 97, 108, 105, 100, 97, 116, 101]⟩) ++ flagI c.prox ⟨#[112, 114, 111, 120, 121, 45, 114, 101, 118, 97, 108, 105, 100, 97, 116, 101]⟩) ++ flagI c.only ⟨#[111, 110, 108, 121, 45, 105, 102, 45, 99, 97, 99, 104, 101, 100]⟩) ++ numI c.maxA ⟨#[109, 97, 120, 45, 97, 103, 101]⟩) ++ numI c.sMax ⟨#[115, 45, 109, 97, 120, 97, 103, 101]⟩) ++ numI c.minF ⟨#[109, 105, 110, 45, 102, 114, 101, 115, 104]⟩) ++ flagI c.anyStale ⟨#[109, 97, 120, 45, 115, 116, 97, 108, 101]⟩)).length ≤ 1000; simp only [List.length_append, List.length_nil]; have h0 := flagI_len c.noStore ⟨#[110, 111, 45, 115, 116, 111, 114, 101]⟩; have h1 := flagI_len c.noCache ⟨#[110, 111, 45, 99, 97, 99, 104, 101]⟩; have h2 := flagI_len c.priv ⟨#[112, 114, 105, 118, 97, 116, 101]⟩; have h3 := flagI_len c.pub ⟨#[112, 117, 98, 108, 105, 99]⟩; have h4 := flagI_len c.must ⟨#[109, 117, 115, 116, 45, 114, 101, 118, 97, 108, 105, 100, 97, 116, 101]⟩; have h5 := flagI_len c.prox ⟨#[112, 114, 111, 120, 121, 45, 114, 101, 118, 97, 108, 105, 100, 97, 116, 101]⟩; have h6 := flagI_len c.only ⟨#[111, 110, 108, 121, 45, 105, 102, 45, 99, 97, 99, 104, 101, 100]⟩; have h7 := numI_len c.maxA ⟨#[109, 97, 120, 45, 97, 103, 101]⟩; have h8 := numI_len c.sMax ⟨#[115, 45, 109, 97, 120, 97, 103, 101]⟩; have h9 := numI_len c.minF ⟨#[109, 105, 110, 45, 102, 114, 101, 115, 104]⟩; have h10 := flagI_len c.anyStale ⟨#[109, 97, 120, 45, 115, 116, 97, 108, 101]⟩; omega) HX11.out.1.2 HCW.out.2.2.2.2 HCW.out.2.2.2.1 (by have := HWS.out; omega) (by decide)).mono ?_
  rintro e w12 ⟨rfl, hp12, hbn⟩
  have hbx := HBX11.out.trans hbn
  have hx := HK.out w12 hbx
  have HX12 := Lib.hid hx
  have HBX12 := Lib.hid hbx
  clear n0 n1 n2 n3 n4 n5 n6 n7 n8 n9 n10 n11 hbn hbx hp11
  obtain ⟨n0, n1, n2, n3, n4, n5, n6, n7, n8, n9, n10, n11⟩ := ctl_reads hx.1.1
  clear hx
  have hpf : PartsAt w12 (w.heap.size + 1) (itemsF c) := hp12
  obtain ⟨v, hv1, hv2⟩ := hpf
  have c0 : w12.cell? ⟨w.heap.size + 1, 0, none⟩ = some v := (Lib.cell_of_heap hv1 0).trans rfl
  obtain ⟨items, hitems⟩ : ∃ r, itemsF c = r := ⟨_, rfl⟩
  rw [hitems] at hv2 HTF HLEN
  have HV2 := Lib.hid hv2
  clear n0 n1 n2 n3 n4 n5 n6 n7 n8 n9 n10 n11 hp12 hv1 hitems
  by_cases h0 : items = []
  · subst h0
    have HE : Hid ((⟨(textF c).toArray⟩ : ByteArray) = ⟨#[]⟩) := Lib.hid (by rw [HTF.out]; rfl)
    obtain ⟨av, cv, rfl, _⟩ := own_form (n := 0) hv2 rfl
    clear hv2
    go_wp2_with fail
    refine (Tryd.strings_Join_none av cv ⟨#[44, 32]⟩ w12).mono ?_
    rintro e w13 ⟨rfl, rfl⟩
    go_wp2
    go_ret
    exact ⟨by rw [HE.out]; rfl, HX12.out.2⟩
  · obtain ⟨g, cap, rfl, hg1, hg2⟩ := World.ownsRow.form hv2 (List.length_pos_iff.2 h0)
    have hcap : items.length ≤ cap := by
      rcases hv2.2 with ⟨h, _⟩ | ⟨g', cap', cur, h, _, _, h3, _⟩
      · cases h
      · injection h with h h2 h4
        subst h4
        exact h3
    have hcells : ∀ (j : Nat) x, items[j]? = some x → w12.cell? ⟨g, 0 + j, none⟩ = some (.string x) := by
      intro j x hj
      obtain ⟨hj', rfl⟩ := List.getElem?_eq_some_iff.1 hj
      have := hv2.cells (g := g) rfl j _ (strCells_at hj')
      have e : (⟨g, 0, none⟩ : Addr).add j = ⟨g, j, none⟩ := by unfold Addr.add; by_cases h0 : j = 0 <;> simp [h0]
      rw [e] at this
      rw [Nat.zero_add]
      exact this
    have cJ := Tryd.strings_Join g 0 cap items ⟨#[44, 32]⟩ w12 hcells hg2 (by have := HLEN.out; omega) hcap (by rw [← HTF.out]; have := HL.out; omega)
    rw [← HTF.out] at cJ
    clear hv2 hcells
    go_wp2_with fail
    refine cJ.mono ?_
    rintro e w13 ⟨rfl, hb13⟩
    clear cJ
    go_wp2
    go_ret
    exact ⟨rfl, HX12.out.2.trans (hb13.mono HX12.out.2.size)⟩
end Go.Proofs.YtkpkpfolgbpjbaaDoor
namespace Go.Proofs.YtkpkpfolgbpjbaaDoor
open Go.RowKit HeadMath HeadS

theorem bytes_injC {a b : ByteArray} (h : a.data.toList = b.data.toList) : a = b := by
  cases a; cases b
  simp at h
  rw [h]
/-- The text of the parts so far. -/
def outB (l : List ByteArray) : ByteArray := ⟨(Lib.join (l.map (·.data.toList)) [44, 32]).toArray⟩
theorem join_snoc (l : List (List UInt8)) (x : List UInt8) (h : l ≠ []) : Lib.join (l ++ [x]) [44, 32] = Lib.join l [44, 32] ++ ([44, 32] ++ x) := by
  cases l with
  | nil => exact absurd rfl h
  | cons a l =>
    rw [List.cons_append, Lib.join_cons, Lib.join_cons]
    simp [Lib.joinTail]
def Full (l : List ByteArray) : Prop := ∀ x ∈ l, 0 < x.size
theorem outB_empty {l : List ByteArray} (h : Full l) : (outB l).toList.isEmpty = l.isEmpty := by
  rw [Lib.toList_data]
  show (Lib.join (l.map (·.data.toList)) [44, 32]).toArray.toList.isEmpty = _
  cases l with
  | nil => rfl
  | cons a l =>
    rw [List.map_cons, Lib.join_cons]
    have ha := h a (by simp)
    cases hd : a.data.toList with
    | nil => have := size_list a; rw [hd] at this; simp at this; omega
    | cons y r => rfl
theorem outB_none {l : List ByteArray} (x : ByteArray) (h : l = []) : outB (l ++ [x]) = x := by
  subst h
  show (⟨(Lib.join [x.data.toList] [44, 32]).toArray⟩ : ByteArray) = x
  rw [Lib.join_one]
theorem outB_more {l : List ByteArray} (x : ByteArray) (h : l ≠ []) : outB (l ++ [x]) = outB l ++ ⟨#[44, 32]⟩ ++ x := by
  unfold outB
  rw [List.map_append, List.map_cons, List.map_nil, join_snoc _ _ (by simpa using h)]
  apply bytes_injC
  rw [ByteArray.data_append, ByteArray.data_append]
  simp
set_option maxHeartbeats 4000000 in
theorem add_any (l : List ByteArray) (b : Bool) (x : ByteArray) (w : World) (hl : Full l) (hs : (outB l).size ≤ 1000000) (hx : x.size ≤ 1000) :
    Calls Tryd.prog 37 #[.string (outB l), .bool b, .string x] w fun e w' => e = .returned (.string (outB (l ++ if b then [x] else []))) ∧ w' = w := by
  have he := outB_empty hl
  cases b with
  | false =>
    have HE : Hid (l ++ (if false = true then [x] else []) = l) := Lib.hid (by simp)
    obtain ⟨o, ho⟩ : ∃ o, outB l = o := ⟨_, rfl⟩
    rw [HE.out, ho]
    clear he ho
    go_enter Tryd.func37, Tryd.ntmps37
    go_wp2
    go_ret
    exact ⟨rfl, rfl⟩
  | true =>
    have HE : Hid (l ++ (if true = true then [x] else []) = l ++ [x]) := Lib.hid (by simp)
    rw [HE.out]
    by_cases h0 : l = []
    · have HO := Lib.hid (outB_none x h0)
      rw [HO.out]
      rw [h0] at he ⊢
      obtain ⟨o, ho⟩ : ∃ o, outB ([] : List ByteArray) = o := ⟨_, rfl⟩
      have hoo : o = ⟨#[]⟩ := by rw [← ho]; rfl
      rw [ho] at he ⊢
      have hne : (!o.toList.isEmpty) = false := by rw [he]; rfl
      have hcat : o ++ x = x := by
        rw [hoo]
        apply bytes_injC
        rw [ByteArray.data_append]
        simp
      have hoz : o.size = 0 := by rw [hoo]; rfl
      clear ho he hoo
      go_enter Tryd.func37, Tryd.ntmps37
      go_wp2
      go_ret
      exact ⟨by rw [← hcat]; rfl, rfl⟩
    · have HO := Lib.hid (outB_more x h0)
      rw [HO.out]
      have hne : (outB l).toList.isEmpty = false := by rw [he]; simpa using h0
      obtain ⟨o, ho⟩ : ∃ o, outB l = o := ⟨_, rfl⟩
      rw [ho] at hne hs ⊢
      have hne2 : (!o.toList.isEmpty) = true := by rw [hne]; rfl
      clear ho he
      go_enter Tryd.func37, Tryd.ntmps37
      go_wp2
      go_ret
      exact ⟨rfl, rfl⟩
end Go.Proofs.YtkpkpfolgbpjbaaDoor
namespace Go.Proofs.YtkpkpfolgbpjbaaDoor
open Go.RowKit HeadMath HeadS

def DecPost (n : Nat) (w : World) (e : Ending) (w' : World) : Prop := e = .returned (.string ⟨(Lib.decDigits n).toArray⟩) ∧ w' = w
theorem dec_len (n : Nat) (h : n ≤ 2147483647) : (Lib.decDigits n).length ≤ 21 := by
  have := Lib.itoa_length_le (n : Int) (by omega) (by omega)
  unfold Lib.itoa at this
  rw [if_neg (by omega)] at this
  simpa using this
theorem one_digit (n : Nat) (h : n < 10) : (⟨#[48, 49, 50, 51, 52, 53, 54, 55, 56, 57]⟩ : ByteArray).extract n (n + 1) = ⟨(Lib.decDigits n).toArray⟩ := by
  rw [Lib.decDigits_one h]
  match n, h with
  | 0, _ => rfl
  | 1, _ => rfl
  | 2, _ => rfl
  | 3, _ => rfl
  | 4, _ => rfl
  | 5, _ => rfl
  | 6, _ => rfl
  | 7, _ => rfl
  | 8, _ => rfl
  | 9, _ => rfl
set_option maxRecDepth 100000 in
set_option maxHeartbeats 4000000 in
theorem dec_any : ∀ (f n : Nat) (w : World), n < f → n ≤ 2147483647 → Calls Tryd.prog 63 #[.int .i64 n] w (DecPost n w) := by
  intro f
  induction f with
  | zero => intro n w h; omega
  | succ f ih =>
    intro n w hf hn
    unfold DecPost
    by_cases h10 : n < 10
    · have HD := Lib.hid (one_digit n h10)
      go_enter Tryd.func63, Tryd.ntmps63
      go_wp2
      go_ret
      exact ⟨by rw [← HD.out]; rfl, rfl⟩
    · have HD : Hid ((⟨(Lib.decDigits (n / 10)).toArray⟩ : ByteArray) ++ ⟨(Lib.decDigits (n % 10)).toArray⟩ = ⟨(Lib.decDigits n).toArray⟩) := Lib.hid (by
        rw [Lib.decDigits_one (show n % 10 < 10 by omega)]
        apply bytes_injC
        rw [ByteArray.data_append, show Lib.decDigits n = Lib.decDigits (n / 10) ++ [UInt8.ofNat (48 + n % 10)] from by rw [Lib.decDigits, dif_neg h10]]
        simp)
      have c1 := fun w => ih (n / 10) w (by omega) (by omega)
      have c2 := fun w => ih (n % 10) w (by omega) (by omega)
      unfold DecPost at c1 c2
      have z1 : (⟨(Lib.decDigits (n / 10)).toArray⟩ : ByteArray).size ≤ 21 := by
        show (Lib.decDigits (n / 10)).toArray.size ≤ 21
        simpa using dec_len (n / 10) (by omega)
      have z2 : (⟨(Lib.decDigits (n % 10)).toArray⟩ : ByteArray).size ≤ 21 := by
        show (Lib.decDigits (n % 10)).toArray.size ≤ 21
        simpa using dec_len (n % 10) (by omega)
      obtain ⟨a, ha⟩ : ∃ a : ByteArray, (⟨(Lib.decDigits (n / 10)).toArray⟩ : ByteArray) = a := ⟨_, rfl⟩
      obtain ⟨b, hb⟩ : ∃ b : ByteArray, (⟨(Lib.decDigits (n % 10)).toArray⟩ : ByteArray) = b := ⟨_, rfl⟩
      simp only [ha] at c1 z1 HD
      simp only [hb] at c2 z2 HD
      clear ih ha hb
      have e1 : (n : Int).tdiv 10 = ((n / 10 : Nat) : Int) := by rw [Int.tdiv_eq_ediv_of_nonneg (by omega)]; omega
      have e2 : (n : Int).tmod 10 = ((n % 10 : Nat) : Int) := by rw [Int.tmod_eq_emod_of_nonneg (by omega)]; omega
      go_enter Tryd.func63, Tryd.ntmps63
      go_wp2_with fail
      refine (c1 w).mono ?_
      rintro e w1 ⟨rfl, rfl⟩
      go_wp2_with fail
      refine (c2 w1).mono ?_
      rintro e w2 ⟨rfl, rfl⟩
      go_wp2
      go_ret
      exact ⟨by rw [← HD.out]; rfl, rfl⟩
end Go.Proofs.YtkpkpfolgbpjbaaDoor
namespace Go.Proofs.YtkpkpfolgbpjbaaDoor
open Go.RowKit HeadMath HeadS

def GoodK (l : List ByteArray) (k : Nat) : Prop := (∀ x ∈ l, 0 < x.size ∧ x.size ≤ 122) ∧ l.length ≤ k
theorem good_flag {l : List ByteArray} {k : Nat} {b : Bool} {x : ByteArray} (h : GoodK l k) (h1 : 0 < x.size) (h2 : x.size ≤ 100) : GoodK (l ++ flagI b x) (k + 1) := by
  refine ⟨fun y hy => ?_, by have := flagI_len b x; have := h.2; rw [List.length_append]; omega⟩
  rcases List.mem_append.1 hy with hy | hy
  · exact h.1 y hy
  · unfold flagI at hy
    split at hy
    · obtain rfl : y = x := by simpa using hy
      exact ⟨h1, by omega⟩
    · cases hy
theorem good_num {l : List ByteArray} {k : Nat} {n : Int} {x : ByteArray} (h : GoodK l k) (h1 : 0 < x.size) (h2 : x.size ≤ 100) : GoodK (l ++ numI n x) (k + 1) := by
  refine ⟨fun y hy => ?_, by have := numI_len n x; have := h.2; rw [List.length_append]; omega⟩
  rcases List.mem_append.1 hy with hy | hy
  · exact h.1 y hy
  · unfold numI at hy
    split at hy
    · obtain rfl : y = numB n x := by simpa using hy
      refine ⟨?_, numB_size (by assumption) h2⟩
      unfold numB
      rw [ByteArray.size_append, ByteArray.size_append]
      omega
    · cases hy
theorem GoodK.full {l : List ByteArray} {k : Nat} (h : GoodK l k) : Full l := fun x hx => (h.1 x hx).1
theorem GoodK.size {l : List ByteArray} {k : Nat} (h : GoodK l k) (hk : k ≤ 12) : (outB l).size ≤ 1000000 := by
  have := join_len (l.map (·.data.toList)) 122 (by
    intro x hx
    obtain ⟨y, hy, rfl⟩ := List.mem_map.1 hx
    rw [size_list]; exact (h.1 y hy).2)
  rw [List.length_map] at this
  have h2 : l.length * 124 ≤ 12 * 124 := Nat.mul_le_mul_right _ (by have := h.2; omega)
  show (Lib.join (l.map (·.data.toList)) [44, 32]).toArray.size ≤ 1000000
  simp only [List.size_toArray]
  omega
theorem num_is {n : Int} {x s : ByteArray} (hs : s = x ++ ⟨#[61]⟩) (h0 : 0 ≤ n) (m : Nat) (hm : min (max n 0) 2147483647 = (m : Int)) : s ++ ⟨(Lib.decDigits m).toArray⟩ = numB n x := by
  unfold numB
  have e : min n 2147483647 = (m : Int) := by omega
  rw [e, hs]
  have : Lib.itoa (m : Int) = Lib.decDigits m := by unfold Lib.itoa; rw [if_neg (by omega)]; rfl
  rw [this]
set_option maxRecDepth 100000 in
set_option maxHeartbeats 4000000 in
theorem num_any (l : List ByteArray) (n : Int) (x s : ByteArray) (k : Nat) (w : World) (hl : GoodK l k) (hk : k ≤ 12) (hs : s = x ++ ⟨#[61]⟩) (hx : x.size ≤ 100) :
    Calls Tryd.prog 38 #[.string (outB l), .int .i64 n, .string s] w fun e w' => e = .returned (.string (outB (l ++ numI n x))) ∧ w' = w := by
  obtain ⟨m, hm⟩ : ∃ m : Nat, min (max n 0) 2147483647 = (m : Int) := ⟨(min (max n 0) 2147483647).toNat, by omega⟩
  have hsz : s.size ≤ 101 := by rw [hs, ByteArray.size_append]; have : (⟨#[61]⟩ : ByteArray).size = 1 := rfl; omega
  have cD := fun w => dec_any (m + 1) m w (by omega) (by omega)
  unfold DecPost at cD
  have zd : (⟨(Lib.decDigits m).toArray⟩ : ByteArray).size ≤ 21 := by
    show (Lib.decDigits m).toArray.size ≤ 21
    simpa using dec_len m (by omega)
  have hnm := fun h0 => num_is hs h0 m hm
  obtain ⟨d, hd⟩ : ∃ d : ByteArray, (⟨(Lib.decDigits m).toArray⟩ : ByteArray) = d := ⟨_, rfl⟩
  simp only [hd] at cD zd hnm
  have cA := fun bb w => add_any l bb (s ++ d) w hl.full (hl.size hk) (by rw [ByteArray.size_append]; omega)
  obtain ⟨o, ho⟩ : ∃ o, outB l = o := ⟨_, rfl⟩
  simp only [ho] at cA ⊢
  by_cases h0 : 0 ≤ n
  · have HN : Hid (l ++ numI n x = l ++ if true = true then [s ++ d] else []) := Lib.hid (by unfold numI; rw [if_pos h0, hnm h0]; rfl)
    have cB := cA true
    clear cA hd hnm ho hs
    rw [HN.out]
    go_enter Tryd.func38, Tryd.ntmps38
    go_wp2_with fail
    refine (cD w).mono ?_
    rintro e w1 ⟨rfl, rfl⟩
    go_wp2_with fail
    refine (cB w1).mono ?_
    rintro e w2 ⟨rfl, rfl⟩
    go_wp2
    go_ret
    exact ⟨rfl, rfl⟩
  · have HN : Hid (l ++ numI n x = l ++ if false = true then [s ++ d] else []) := Lib.hid (by unfold numI; rw [if_neg h0]; rfl)
    have cB := cA false
    clear cA hd hnm ho hs
    rw [HN.out]
    go_enter Tryd.func38, Tryd.ntmps38
    go_wp2_with fail
    refine (cD w).mono ?_
    rintro e w1 ⟨rfl, rfl⟩
    go_wp2_with fail
    refine (cB w1).mono ?_
    rintro e w2 ⟨rfl, rfl⟩
    go_wp2
    go_ret
    exact ⟨rfl, rfl⟩
theorem flagI_if (b : Bool) (x : ByteArray) : (if b = true then [x] else []) = flagI b x := rfl
set_option maxRecDepth 100000 in
set_option maxHeartbeats 16000000 in
theorem refText_any (c : Ctl) (w : World) : Calls Tryd.prog 12 #[ctlV c] w (TextPost (textF c) w) := by
  obtain ⟨w0, hw0⟩ : ∃ w0, w.alloc (.cells #[.bool c.noStore, .bool c.noCache, .bool c.priv, .bool c.pub, .bool c.must, .bool c.prox, .bool c.only, .bool c.anyStale, .int .i64 c.maxA, .int .i64 c.sMax, .int .i64 c.minF, .int .i64 c.maxS] 23) = w0 := ⟨_, rfl⟩
  have hb0 : Below w.heap.size w w0 := by rw [← hw0]; exact ((Spares.refl nowhere w).alloc _).below0
  have hc0 : CtlAt w0 w.heap.size c := by
    unfold CtlAt
    rw [← hw0]
    exact heap_alloc_new w _
  have HT : Hid ((⟨(textF c).toArray⟩ : ByteArray) = outB (itemsF c)) := Lib.hid rfl
  have HW0 := Lib.hid hw0
  have HB0 := Lib.hid hb0
  obtain ⟨n0, n1, n2, n3, n4, n5, n6, n7, n8, n9, n10, n11⟩ := ctl_reads hc0
  have g0 : GoodK ([] : List ByteArray) 0 := ⟨fun x hx => (by cases hx), Nat.le_refl _⟩
  have o0 : outB [] = ⟨#[]⟩ := rfl
  clear hc0 hw0 hb0
  unfold ctlV TextPost
  have k0 := add_any ([] : List ByteArray) c.noStore ⟨#[110, 111, 45, 115, 116, 111, 114, 101]⟩ w0 g0.full (g0.size (by decide)) (by decide)
  rw [flagI_if] at k0
  have g1 : GoodK (([] : List ByteArray) ++ flagI c.noStore ⟨#[110, 111, 45, 115, 116, 111, 114, 101]⟩) 1 := good_flag g0 (by decide) (by decide)
  have k1 := add_any (([] : List ByteArray) ++ flagI c.noStore ⟨#[110, 111, 45, 115, 116, 111, 114, 101]⟩) c.noCache ⟨#[110, 111, 45, 99, 97, 99, 104, 101]⟩ w0 g1.full (g1.size (by decide)) (by decide)
  rw [flagI_if] at k1
  have g2 : GoodK ((([] : List ByteArray) ++ flagI c.noStore ⟨#[110, 111, 45, 115, 116, 111, 114, 101]⟩) ++ flagI c.noCache ⟨#[110, 111, 45, 99, 97, 99, 104, 101]⟩) 2 := good_flag g1 (by decide) (by decide)
  have k2 := add_any ((([] : List ByteArray) ++ flagI c.noStore ⟨#[110, 111, 45, 115, 116, 111, 114, 101]⟩) ++ flagI c.noCache ⟨#[110, 111, 45, 99, 97, 99, 104, 101]⟩) c.priv ⟨#[112, 114, 105, 118, 97, 116, 101]⟩ w0 g2.full (g2.size (by decide)) (by decide)
  rw [flagI_if] at k2
  have g3 : GoodK (((([] : List ByteArray) ++ flagI c.noStore ⟨#[110, 111, 45, 115, 116, 111, 114, 101]⟩) ++ flagI c.noCache ⟨#[110, 111, 45, 99, 97, 99, 104, 101]⟩) ++ flagI c.priv ⟨#[112, 114, 105, 118, 97, 116, 101]⟩) 3 := good_flag g2 (by decide) (by decide)
  have k3 := add_any (((([] : List ByteArray) ++ flagI c.noStore ⟨#[110, 111, 45, 115, 116, 111, 114, 101]⟩) ++ flagI c.noCache ⟨#[110, 111, 45, 99, 97, 99, 104, 101]⟩) ++ flagI c.priv ⟨#[112, 114, 105, 118, 97, 116, 101]⟩) c.pub ⟨#[112, 117, 98, 108, 105, 99]⟩ w0 g3.full (g3.size (by decide)) (by decide)
  rw [flagI_if] at k3
  have g4 : GoodK ((((([] : List ByteArray) ++ flagI c.noStore ⟨#[110, 111, 45, 115, 116, 111, 114, 101]⟩) ++ flagI c.noCache ⟨#[110, 111, 45, 99, 97, 99, 104, 101]⟩) ++ flagI c.priv ⟨#[112, 114, 105, 118, 97, 116, 101]⟩) ++ flagI c.pub ⟨#[112, 117, 98, 108, 105, 99]⟩) 4 := good_flag g3 (by decide) (by decide)
  have k4 := add_any ((((([] : List ByteArray) ++ flagI c.noStore ⟨#[110, 111, 45, 115, 116, 111, 114, 101]⟩) ++ flagI c.noCache ⟨#[110, 111, 45, 99, 97, 99, 104, 101]⟩) ++ flagI c.priv ⟨#[112, 114, 105, 118, 97, 116, 101]⟩) ++ flagI c.pub ⟨#[112, 117, 98, 108, 105, 99]⟩) c.must ⟨#[109, 117, 115, 116, 45, 114, 101, 118, 97, 108, 105, 100, 97, 116, 101]⟩ w0 g4.full (g4.size (by decide)) (by decide)
  rw [flagI_if] at k4
  have g5 : GoodK (((((([] : List ByteArray) ++ flagI c.noStore ⟨#[110, 111, 45, 115, 116, 111, 114, 101]⟩) ++ flagI c.noCache ⟨#[110, 111, 45, 99, 97, 99, 104, 101]⟩) ++ flagI c.priv ⟨#[112, 114, 105, 118, 97, 116, 101]⟩) ++ flagI c.pub ⟨#[112, 117, 98, 108, 105, 99]⟩) ++ flagI c.must ⟨#[109, 117, 115, 116, 45, 114, 101, 118, 97, 108, 105, 100, 97, 116, 101]⟩) 5 := good_flag g4 (by decide) (by decide)
  have k5 := add_any (((((([] : List ByteArray) ++ flagI c.noStore ⟨#[110, 111, 45, 115, 116, 111, 114, 101]⟩) ++ flagI c.noCache ⟨#[110, 111, 45, 99, 97, 99, 104, 101]⟩) ++ flagI c.priv ⟨#[112, 114, 105, 118, 97, 116, 101]⟩) ++ flagI c.pub ⟨#[112, 117, 98, 108, 105, 99]⟩) ++ flagI c.must ⟨#[109, 117, 115, 116, 45, 114, 101, 118, 97, 108, 105, 100, 97, 116, 101]⟩) c.prox ⟨#[112, 114, 111, 120, 121, 45, 114, 101, 118, 97, 108, 105, 100, 97, 116, 101]⟩ w0 g5.full (g5.size (by decide)) (by decide)
  rw [flagI_if] at k5
  have g6 : GoodK ((((((([] : List ByteArray) ++ flagI c.noStore ⟨#[110, 111, 45, 115, 116, 111, 114, 101]⟩) ++ flagI c.noCache ⟨#[110, 111, 45, 99, 97, 99, 104, 101]⟩) ++ flagI c.priv ⟨#[112, 114, 105, 118, 97, 116, 101]⟩) ++ flagI c.pub ⟨#[112, 117, 98, 108, 105, 99]⟩) ++ flagI c.must ⟨#[109, 117, 115, 116, 45, 114, 101, 118, 97, 108, 105, 100, 97, 116, 101]⟩) ++ flagI c.prox ⟨#[112, 114, 111, 120, 121, 45, 114, 101, 118, 97, 108, 105, 100, 97, 116, 101]⟩) 6 := good_flag g5 (by decide) (by decide)
  have k6 := add_any ((((((([] : List ByteArray) ++ flagI c.noStore ⟨#[110, 111, 45, 115, 116, 111, 114, 101]⟩) ++ flagI c.noCache ⟨#[110, 111, 45, 99, 97, 99, 104, 101]⟩) ++ flagI c.priv ⟨#[112, 114, 105, 118, 97, 116, 101]⟩) ++ flagI c.pub ⟨#[112, 117, 98, 108, 105, 99]⟩) ++ flagI c.must ⟨#[109, 117, 115, 116, 45, 114, 101, 118, 97, 108, 105, 100, 97, 116, 101]⟩) ++ flagI c.prox ⟨#[112, 114, 111, 120, 121, 45, 114, 101, 118, 97, 108, 105, 100, 97, 116, 101]⟩) c.only ⟨#[111, 110, 108, 121, 45, 105, 102, 45, 99, 97, 99, 104, 101, 100]⟩ w0 g6.full (g6.size (by decide)) (by decide)
  rw [flagI_if] at k6
  have g7 : GoodK (((((((([] : List ByteArray) ++ flagI c.noStore ⟨#[110, 111, 45, 115, 116, 111, 114, 101]⟩) ++ flagI c.noCache ⟨#[110, 111, 45, 99, 97, 99, 104, 101]⟩) ++ flagI c.priv ⟨#[112, 114, 105, 118, 97, 116, 101]⟩) ++ flagI c.pub ⟨#[112, 117, 98, 108, 105, 99]⟩) ++ flagI c.must ⟨#[109, 117, 115, 116, 45, 114, 101, 118, 97, 108, 105, 100, 97, 116, 101]⟩) ++ flagI c.prox ⟨#[112, 114, 111, 120, 121, 45, 114, 101, 118, 97, 108, 105, 100, 97, 116, 101]⟩) ++ flagI c.only ⟨#[111, 110, 108, 121, 45, 105, 102, 45, 99, 97, 99, 104, 101, 100]⟩) 7 := good_flag g6 (by decide) (by decide)
  have k7 := num_any (((((((([] : List ByteArray) ++ flagI c.noStore ⟨#[110, 111, 45, 115, 116, 111, 114, 101]⟩) ++ flagI c.noCache ⟨#[110, 111, 45, 99, 97, 99, 104, 101]⟩) ++ flagI c.priv ⟨#[112, 114, 105, 118, 97, 116, 101]⟩) ++ flagI c.pub ⟨#[112, 117, 98, 108, 105, 99]⟩) ++ flagI c.must ⟨#[109, 117, 115, 116, 45, 114, 101, 118, 97, 108, 105, 100, 97, 116, 101]⟩) ++ flagI c.prox ⟨#[112, 114, 111, 120, 121, 45, 114, 101, 118, 97, 108, 105, 100, 97, 116, 101]⟩) ++ flagI c.only ⟨#[111, 110, 108, 121, 45, 105, 102, 45, 99, 97, 99, 104, 101, 100]⟩) c.maxA ⟨#[109, 97, 120, 45, 97, 103, 101]⟩ ⟨#[109, 97, 120, 45, 97, 103, 101, 61]⟩ 7 w0 g7 (by decide) rfl (by decide)
  have g8 : GoodK ((((((((([] : List ByteArray) ++ flagI c.noStore ⟨#[110, 111, 45, 115, 116, 111, 114, 101]⟩) ++ flagI c.noCache ⟨#[110, 111, 45, 99, 97, 99, 104, 101]⟩) ++ flagI c.priv ⟨#[112, 114, 105, 118, 97, 116, 101]⟩) ++ flagI c.pub ⟨#[112, 117, 98, 108, 105, 99]⟩) ++ flagI c.must ⟨#[109, 117, 115, 116, 45, 114, 101, 118, 97, 108, 105, 100, 97, 116, 101]⟩) ++ flagI c.prox ⟨#[112, 114, 111, 120, 121, 45, 114, 101, 118, 97, 108, 105, 100, 97, 116, 101]⟩) ++ flagI c.only ⟨#[111, 110, 108, 121, 45, 105, 102, 45, 99, 97, 99, 104, 101, 100]⟩) ++ numI c.maxA ⟨#[109, 97, 120, 45, 97, 103, 101]⟩) 8 := good_num g7 (by decide) (by decide)
  have k8 := num_any ((((((((([] : List ByteArray) ++ flagI c.noStore ⟨#[110, 111, 45, 115, 116, 111, 114, 101]⟩) ++ flagI c.noCache ⟨#[110, 111, 45, 99, 97, 99, 104, 101]⟩) ++ flagI c.priv ⟨#[112, 114, 105, 118, 97, 116, 101]⟩) ++ flagI c.pub ⟨#[112, 117, 98, 108, 105, 99]⟩) ++ flagI c.must ⟨#[109, 117, 115, 116, 45, 114, 101, 118, 97, 108, 105, 100, 97, 116, 101]⟩) ++ flagI c.prox ⟨#[112, 114, 111, 120, 121, 45, 114, 101, 118, 97, 108, 105, 100, 97, 116, 101]⟩) ++ flagI c.only ⟨#[111, 110, 108, 121, 45, 105, 102, 45, 99, 97, 99, 104, 101, 100]⟩) ++ numI c.maxA ⟨#[109, 97, 120, 45, 97, 103, 101]⟩) c.sMax ⟨#[115, 45, 109, 97, 120, 97, 103, 101]⟩ ⟨#[115, 45, 109, 97, 120, 97, 103, 101, 61]⟩ 8 w0 g8 (by decide) rfl (by decide)
  have g9 : GoodK (((((((((([] : List ByteArray) ++ flagI c.noStore ⟨#[110, 111, 45, 115, 116, 111, 114, 101]⟩) ++ flagI c.noCache ⟨#[110, 111, 45, 99, 97, 99, 104, 101]⟩) ++ flagI c.priv ⟨#[112, 114, 105, 118, 97, 116, 101]⟩) ++ flagI c.pub ⟨#[112, 117, 98, 108, 105, 99]⟩) ++ flagI c.must ⟨#[109, 117, 115, 116, 45, 114, 101, 118, 97, 108, 105, 100, 97, 116, 101]⟩) ++ flagI c.prox ⟨#[112, 114, 111, 120, 121, 45, 114, 101, 118, 97, 108, 105, 100, 97, 116, 101]⟩) ++ flagI c.only ⟨#[111, 110, 108, 121, 45, 105, 102, 45, 99, 97, 99, 104, 101, 100]⟩) ++ numI c.maxA ⟨#[109, 97, 120, 45, 97, 103, 101]⟩) ++ numI c.sMax ⟨#[115, 45, 109, 97, 120, 97, 103, 101]⟩) 9 := good_num g8 (by decide) (by decide)
  have k9 := num_any (((((((((([] : List ByteArray) ++ flagI c.noStore ⟨#[110, 111, 45, 115, 116, 111, 114, 101]⟩) ++ flagI c.noCache ⟨#[110, 111, 45, 99, 97, 99, 104, 101]⟩) ++ flagI c.priv ⟨#[112, 114, 105, 118, 97, 116, 101]⟩) ++ flagI c.pub ⟨#[112, 117, 98, 108, 105, 99]⟩) ++ flagI c.must ⟨#[109, 117, 115, 116, 45, 114, 101, 118, 97, 108, 105, 100, 97, 116, 101]⟩) ++ flagI c.prox ⟨#[112, 114, 111, 120, 121, 45, 114, 101, 118, 97, 108, 105, 100, 97, 116, 101]⟩) ++ flagI c.only ⟨#[111, 110, 108, 121, 45, 105, 102, 45, 99, 97, 99, 104, 101, 100]⟩) ++ numI c.maxA ⟨#[109, 97, 120, 45, 97, 103, 101]⟩) ++ numI c.sMax ⟨#[115, 45, 109, 97, 120, 97, 103, 101]⟩) c.minF ⟨#[109, 105, 110, 45, 102, 114, 101, 115, 104]⟩ ⟨#[109, 105, 110, 45, 102, 114, 101, 115, 104, 61]⟩ 9 w0 g9 (by decide) rfl (by decide)
  have g10 : GoodK ((((((((((([] : List ByteArray) ++ flagI c.noStore ⟨#[110, 111, 45, 115, 116, 111, 114, 101]⟩) ++ flagI c.noCache ⟨#[110, 111, 45, 99, 97, 99, 104, 101]⟩) ++ flagI c.priv ⟨#[112, 114, 105, 118, 97, 116, 101]⟩) ++ flagI c.pub ⟨#[112, 117, 98, 108, 105, 99]⟩) ++ flagI c.must ⟨#[109, 117, 115, 116, 45, 114, 101, 118, 97, 108, 105, 100, 97, 116, 101]⟩) ++ flagI c.prox ⟨#[112, 114, 111, 120, 121, 45, 114, 101, 118, 97, 108, 105, 100, 97, 116, 101]⟩) ++ flagI c.only ⟨#[111, 110, 108, 121, 45, 105, 102, 45, 99, 97, 99, 104, 101, 100]⟩) ++ numI c.maxA ⟨#[109, 97, 120, 45, 97, 103, 101]⟩) ++ numI c.sMax ⟨#[115, 45, 109, 97, 120, 97, 103, 101]⟩) ++ numI c.minF ⟨#[109, 105, 110, 45, 102, 114, 101, 115, 104]⟩) 10 := good_num g9 (by decide) (by decide)
  have k10 := add_any ((((((((((([] : List ByteArray) ++ flagI c.noStore ⟨#[110, 111, 45, 115, 116, 111, 114, 101]⟩) ++ flagI c.noCache ⟨#[110, 111, 45, 99, 97, 99, 104, 101]⟩) ++ flagI c.priv ⟨#[112, 114, 105, 118, 97, 116, 101]⟩) ++ flagI c.pub ⟨#[112, 117, 98, 108, 105, 99]⟩) ++ flagI c.must ⟨#[109, 117, 115, 116, 45, 114, 101, 118, 97, 108, 105, 100, 97, 116, 101]⟩) ++ flagI c.prox ⟨#[112, 114, 111, 120, 121, 45, 114, 101, 118, 97, 108, 105, 100, 97, 116, 101]⟩) ++ flagI c.only ⟨#[111, 110, 108, 121, 45, 105, 102, 45, 99, 97, 99, 104, 101, 100]⟩) ++ numI c.maxA ⟨#[109, 97, 120, 45, 97, 103, 101]⟩) ++ numI c.sMax ⟨#[115, 45, 109, 97, 120, 97, 103, 101]⟩) ++ numI c.minF ⟨#[109, 105, 110, 45, 102, 114, 101, 115, 104]⟩) c.anyStale ⟨#[109, 97, 120, 45, 115, 116, 97, 108, 101]⟩ w0 g10.full (g10.size (by decide)) (by decide)
  rw [flagI_if] at k10
  have g11 : GoodK (((((((((((([] : List ByteArray) ++ flagI c.noStore ⟨#[110, 111, 45, 115, 116, 111, 114, 101]⟩) ++ flagI c.noCache ⟨#[110, 111, 45, 99, 97, 99, 104, 101]⟩) ++ flagI c.priv ⟨#[112, 114, 105, 118, 97, 116, 101]⟩) ++ flagI c.pub ⟨#[112, 117, 98, 108, 105, 99]⟩) ++ flagI c.must ⟨#[109, 117, 115, 116, 45, 114, 101, 118, 97, 108, 105, 100, 97, 116, 101]⟩) ++ flagI c.prox ⟨#[112, 114, 111, 120, 121, 45, 114, 101, 118, 97, 108, 105, 100, 97, 116, 101]⟩) ++ flagI c.only ⟨#[111, 110, 108, 121, 45, 105, 102, 45, 99, 97, 99, 104, 101, 100]⟩) ++ numI c.maxA ⟨#[109, 97, 120, 45, 97, 103, 101]⟩) ++ numI c.sMax ⟨#[115, 45, 109, 97, 120, 97, 103, 101]⟩) ++ numI c.minF ⟨#[109, 105, 110, 45, 102, 114, 101, 115, 104]⟩) ++ flagI c.anyStale ⟨#[109, 97, 120, 45, 115, 116, 97, 108, 101]⟩) 11 := good_flag g10 (by decide) (by decide)
  have k11 := num_any (((((((((((([] : List ByteArray) ++ flagI c.noStore ⟨#[110, 111, 45, 115, 116, 111, 114, 101]⟩) ++ flagI c.noCache ⟨#[110, 111, 45, 99, 97, 99, 104, 101]⟩) ++ flagI c.priv ⟨#[112, 114, 105, 118, 97, 116, 101]⟩) ++ flagI c.pub ⟨#[112, 117, 98, 108, 105, 99]⟩) ++ flagI c.must ⟨#[109, 117, 115, 116, 45, 114, 101, 118, 97, 108, 105, 100, 97, 116, 101]⟩) ++ flagI c.prox ⟨#[112, 114, 111, 120, 121, 45, 114, 101, 118, 97, 108, 105, 100, 97, 116, 101]⟩) ++ flagI c.only ⟨#[111, 110, 108, 121, 45, 105, 102, 45, 99, 97, 99, 104, 101, 100]⟩) ++ numI c.maxA ⟨#[109, 97, 120, 45, 97, 103, 101]⟩) ++ numI c.sMax ⟨#[115, 45, 109, 97, 120, 97, 103, 101]⟩) ++ numI c.minF ⟨#[109, 105, 110, 45, 102, 114, 101, 115, 104]⟩) ++ flagI c.anyStale ⟨#[109, 97, 120, 45, 115, 116, 97, 108, 101]⟩) c.maxS ⟨#[109, 97, 120, 45, 115, 116, 97, 108, 101]⟩ ⟨#[109, 97, 120, 45, 115, 116, 97, 108, 101, 61]⟩ 11 w0 g11 (by decide) rfl (by decide)
  have g12 : GoodK ((((((((((((([] : List ByteArray) ++ flagI c.noStore ⟨#[110, 111, 45, 115, 116, 111, 114, 101]⟩) ++ flagI c.noCache ⟨#[110, 111, 45, 99, 97, 99, 104, 101]⟩) ++ flagI c.priv ⟨#[112, 114, 105, 118, 97, 116, 101]⟩) ++ flagI c.pub ⟨#[112, 117, 98, 108, 105, 99]⟩) ++ flagI c.must ⟨#[109, 117, 115, 116, 45, 114, 101, 118, 97, 108, 105, 100, 97, 116, 101]⟩) ++ flagI c.prox ⟨#[112, 114, 111, 120, 121, 45, 114, 101, 118, 97, 108, 105, 100, 97, 116, 101]⟩) ++ flagI c.only ⟨#[111, 110, 108, 121, 45, 105, 102, 45, 99, 97, 99, 104, 101, 100]⟩) ++ numI c.maxA ⟨#[109, 97, 120, 45, 97, 103, 101]⟩) ++ numI c.sMax ⟨#[115, 45, 109, 97, 120, 97, 103, 101]⟩) ++ numI c.minF ⟨#[109, 105, 110, 45, 102, 114, 101, 115, 104]⟩) ++ flagI c.anyStale ⟨#[109, 97, 120, 45, 115, 116, 97, 108, 101]⟩) ++ numI c.maxS ⟨#[109, 97, 120, 45, 115, 116, 97, 108, 101]⟩) 12 := good_num g11 (by decide) (by decide)
  rw [o0] at k0
  obtain ⟨o1, ho1⟩ : ∃ o, outB (([] : List ByteArray) ++ flagI c.noStore ⟨#[110, 111, 45, 115, 116, 111, 114, 101]⟩) = o := ⟨_, rfl⟩
  rw [ho1] at k0 k1
  obtain ⟨o2, ho2⟩ : ∃ o, outB ((([] : List ByteArray) ++ flagI c.noStore ⟨#[110, 111, 45, 115, 116, 111, 114, 101]⟩) ++ flagI c.noCache ⟨#[110, 111, 45, 99, 97, 99, 104, 101]⟩) = o := ⟨_, rfl⟩
  rw [ho2] at k1 k2
  obtain ⟨o3, ho3⟩ : ∃ o, outB (((([] : List ByteArray) ++ flagI c.noStore ⟨#[110, 111, 45, 115, 116, 111, 114, 101]⟩) ++ flagI c.noCache ⟨#[110, 111, 45, 99, 97, 99, 104, 101]⟩) ++ flagI c.priv ⟨#[112, 114, 105, 118, 97, 116, 101]⟩) = o := ⟨_, rfl⟩
  rw [ho3] at k2 k3
  obtain ⟨o4, ho4⟩ : ∃ o, outB ((((([] : List ByteArray) ++ flagI c.noStore ⟨#[110, 111, 45, 115, 116, 111, 114, 101]⟩) ++ flagI c.noCache ⟨#[110, 111, 45, 99, 97, 99, 104, 101]⟩) ++ flagI c.priv ⟨#[112, 114, 105, 118, 97, 116, 101]⟩) ++ flagI c.pub ⟨#[112, 117, 98, 108, 105, 99]⟩) = o := ⟨_, rfl⟩
  rw [ho4] at k3 k4
  obtain ⟨o5, ho5⟩ : ∃ o, outB (((((([] : List ByteArray) ++ flagI c.noStore ⟨#[110, 111, 45, 115, 116, 111, 114, 101]⟩) ++ flagI c.noCache ⟨#[110, 111, 45, 99, 97, 99, 104, 101]⟩) ++ flagI c.priv ⟨#[112, 114, 105, 118, 97, 116, 101]⟩) ++ flagI c.pub ⟨#[112, 117, 98, 108, 105, 99]⟩) ++ flagI c.must ⟨#[109, 117, 115, 116, 45, 114, 101, 118, 97, 108, 105, 100, 97, 116, 101]⟩) = o := ⟨_, rfl⟩
  rw [ho5] at k4 k5
  obtain ⟨o6, ho6⟩ : ∃ o, outB ((((((([] : List ByteArray) ++ flagI c.noStore ⟨#[110, 111, 45, 115, 116, 111, 114, 101]⟩) ++ flagI c.noCache ⟨#[110, 111, 45, 99, 97, 99, 104, 101]⟩) ++ flagI c.priv ⟨#[112, 114, 105, 118, 97, 116, 101]⟩) ++ flagI c.pub ⟨#[112, 117, 98, 108, 105, 99]⟩) ++ flagI c.must ⟨#[109, 117, 115, 116, 45, 114, 101, 118, 97, 108, 105, 100, 97, 116, 101]⟩) ++ flagI c.prox ⟨#[112, 114, 111, 120, 121, 45, 114, 101, 118, 97, 108, 105, 100, 97, 116, 101]⟩) = o := ⟨_, rfl⟩
  rw [ho6] at k5 k6
  obtain ⟨o7, ho7⟩ : ∃ o, outB (((((((([] : List ByteArray) ++ flagI c.noStore ⟨#[110, 111, 45, 115, 116, 111, 114, 101]⟩) ++ flagI c.noCache ⟨#[110, 111, 45, 99, 97, 99, 104, 101]⟩) ++ flagI c.priv ⟨#[112, 114, 105, 118, 97, 116, 101]⟩) ++ flagI c.pub ⟨#[112, 117, 98, 108, 105, 99]⟩) ++ flagI c.must ⟨#[109, 117, 115, 116, 45, 114, 101, 118, 97, 108, 105, 100, 97, 116, 101]⟩) ++ flagI c.prox ⟨#[112, 114, 111, 120, 121, 45, 114, 101, 118, 97, 108, 105, 100, 97, 116, 101]⟩) ++ flagI c.only ⟨#[111, 110, 108, 121, 45, 105, 102, 45, 99, 97, 99, 104, 101, 100]⟩) = o := ⟨_, rfl⟩
  rw [ho7] at k6 k7
  obtain ⟨o8, ho8⟩ : ∃ o, outB ((((((((([] : List ByteArray) ++ flagI c.noStore ⟨#[110, 111, 45, 115, 116, 111, 114, 101]⟩) ++ flagI c.noCache ⟨#[110, 111, 45, 99, 97, 99, 104, 101]⟩) ++ flagI c.priv ⟨#[112, 114, 105, 118, 97, 116, 101]⟩) ++ flagI c.pub ⟨#[112, 117, 98, 108, 105, 99]⟩) ++ flagI c.must ⟨#[109, 117, 115, 116, 45, 114, 101, 118, 97, 108, 105, 100, 97, 116, 101]⟩) ++ flagI c.prox ⟨#[112, 114, 111, 120, 121, 45, 114, 101, 118, 97, 108, 105, 100, 97, 116, 101]⟩) ++ flagI c.only ⟨#[111, 110, 108, 121, 45, 105, 102, 45, 99, 97, 99, 104, 101, 100]⟩) ++ numI c.maxA ⟨#[109, 97, 120, 45, 97, 103, 101]⟩) = o := ⟨_, rfl⟩
  rw [ho8] at k7 k8
  obtain ⟨o9, ho9⟩ : ∃ o, outB (((((((((([] : List ByteArray) ++ flagI c.noStore ⟨#[110, 111, 45, 115, 116, 111, 114, 101]⟩) ++ flagI c.noCache ⟨#[110, 111, 45, 99, 97, 99, 104, 101]⟩) ++ flagI c.priv ⟨#[112, 114, 105, 118, 97, 116, 101]⟩) ++ flagI c.pub ⟨#[112, 117, 98, 108, 105, 99]⟩) ++ flagI c.must ⟨#[109, 117, 115, 116, 45, 114, 101, 118, 97, 108, 105, 100, 97, 116, 101]⟩) ++ flagI c.prox ⟨#[112, 114, 111, 120, 121, 45, 114, 101, 118, 97, 108, 105, 100, 97, 116, 101]⟩) ++ flagI c.only ⟨#[111, 110, 108, 121, 45, 105, 102, 45, 99, 97, 99, 104, 101, 100]⟩) ++ numI c.maxA ⟨#[109, 97, 120, 45, 97, 103, 101]⟩) ++ numI c.sMax ⟨#[115, 45, 109, 97, 120, 97, 103, 101]⟩) = o := ⟨_, rfl⟩
  rw [ho9] at k8 k9
  obtain ⟨o10, ho10⟩ : ∃ o, outB ((((((((((([] : List ByteArray) ++ flagI c.noStore ⟨#[110, 111, 45, 115, 116, 111, 114, 101]⟩) ++ flagI c.noCache ⟨#[110, 111, 45, 99, 97, 99, 104, 101]⟩) ++ flagI c.priv ⟨#[112, 114, 105, 118, 97, 116, 101]⟩) ++ flagI c.pub ⟨#[112, 117, 98, 108, 105, 99]⟩) ++ flagI c.must ⟨#[109, 117, 115, 116, 45, 114, 101, 118, 97, 108, 105, 100, 97, 116, 101]⟩) ++ flagI c.prox ⟨#[112, 114, 111, 120, 121, 45, 114, 101, 118, 97, 108, 105, 100, 97, 116, 101]⟩) ++ flagI c.only ⟨#[111, 110, 108, 121, 45, 105, 102, 45, 99, 97, 99, 104, 101, 100]⟩) ++ numI c.maxA ⟨#[109, 97, 120, 45, 97, 103, 101]⟩) ++ numI c.sMax ⟨#[115, 45, 109, 97, 120, 97, 103, 101]⟩) ++ numI c.minF ⟨#[109, 105, 110, 45, 102, 114, 101, 115, 104]⟩) = o := ⟨_, rfl⟩
  rw [ho10] at k9 k10
  obtain ⟨o11, ho11⟩ : ∃ o, outB (((((((((((([] : List ByteArray) ++ flagI c.noStore ⟨#[110, 111, 45, 115, 116, 111, 114, 101]⟩) ++ flagI c.noCache ⟨#[110, 111, 45, 99, 97, 99, 104, 101]⟩) ++ flagI c.priv ⟨#[112, 114, 105, 118, 97, 116, 101]⟩) ++ flagI c.pub ⟨#[112, 117, 98, 108, 105, 99]⟩) ++ flagI c.must ⟨#[109, 117, 115, 116, 45, 114, 101, 118, 97, 108, 105, 100, 97, 116, 101]⟩) ++ flagI c.prox ⟨#[112, 114, 111, 120, 121, 45, 114, 101, 118, 97, 108, 105, 100, 97, 116, 101]⟩) ++ flagI c.only ⟨#[111, 110, 108, 121, 45, 105, 102, 45, 99, 97, 99, 104, 101, 100]⟩) ++ numI c.maxA ⟨#[109, 97, 120, 45, 97, 103, 101]⟩) ++ numI c.sMax ⟨#[115, 45, 109, 97, 120, 97, 103, 101]⟩) ++ numI c.minF ⟨#[109, 105, 110, 45, 102, 114, 101, 115, 104]⟩) ++ flagI c.anyStale ⟨#[109, 97, 120, 45, 115, 116, 97, 108, 101]⟩) = o := ⟨_, rfl⟩
  rw [ho11] at k10 k11
  obtain ⟨o12, ho12⟩ : ∃ o, outB ((((((((((((([] : List ByteArray) ++ flagI c.noStore ⟨#[110, 111, 45, 115, 116, 111, 114, 101]⟩) ++ flagI c.noCache ⟨#[110, 111, 45, 99, 97, 99, 104, 101]⟩) ++ flagI c.priv ⟨#[112, 114, 105, 118, 97, 116, 101]⟩) ++ flagI c.pub ⟨#[112, 117, 98, 108, 105, 99]⟩) ++ flagI c.must ⟨#[109, 117, 115, 116, 45, 114, 101, 118, 97, 108, 105, 100, 97, 116, 101]⟩) ++ flagI c.prox ⟨#[112, 114, 111, 120, 121, 45, 114, 101, 118, 97, 108, 105, 100, 97, 116, 101]⟩) ++ flagI c.only ⟨#[111, 110, 108, 121, 45, 105, 102, 45, 99, 97, 99, 104, 101, 100]⟩) ++ numI c.maxA ⟨#[109, 97, 120, 45, 97, 103, 101]⟩) ++ numI c.sMax ⟨#[115, 45, 109, 97, 120, 97, 103, 101]⟩) ++ numI c.minF ⟨#[109, 105, 110, 45, 102, 114, 101, 115, 104]⟩) ++ flagI c.anyStale ⟨#[109, 97, 120, 45, 115, 116, 97, 108, 101]⟩) ++ numI c.maxS ⟨#[109, 97, 120, 45, 115, 116, 97, 108, 101]⟩) = o := ⟨_, rfl⟩
  rw [ho12] at k11
  have HLAST : Hid (o12 = outB (itemsF c)) := Lib.hid ho12.symm
  clear ho12 g0 g1 g2 g3 g4 g5 g6 g7 g8 g9 g10 g11 g12 ho1 ho2 ho3 ho4 ho5 ho6 ho7 ho8 ho9 ho10 ho11 o0
  go_enter Tryd.func12, Tryd.ntmps12
  go_wp2_with fail
  change Calls _ _ _ (w.alloc (.cells #[.bool c.noStore, .bool c.noCache, .bool c.priv, .bool c.pub, .bool c.must, .bool c.prox, .bool c.only, .bool c.anyStale, .int .i64 c.maxA, .int .i64 c.sMax, .int .i64 c.minF, .int .i64 c.maxS] 23)) _
  rw [HW0.out]
  refine k0.mono ?_
  rintro e w1 ⟨rfl, rfl⟩
  clear k0
  go_wp2_with fail
  refine k1.mono ?_
  rintro e w1 ⟨rfl, rfl⟩
  clear k1
  go_wp2_with fail
  refine k2.mono ?_
  rintro e w1 ⟨rfl, rfl⟩
  clear k2
  go_wp2_with fail
  refine k3.mono ?_
  rintro e w1 ⟨rfl, rfl⟩
  clear k3
  go_wp2_with fail
  refine k4.mono ?_
  rintro e w1 ⟨rfl, rfl⟩
  clear k4
  go_wp2_with fail
  refine k5.mono ?_
  rintro e w1 ⟨rfl, rfl⟩
  clear k5
  go_wp2_with fail
  refine k6.mono ?_
  rintro e w1 ⟨rfl, rfl⟩
  clear k6
  go_wp2_with fail
  refine k7.mono ?_
  rintro e w1 ⟨rfl, rfl⟩
  clear k7
  go_wp2_with fail
  refine k8.mono ?_
  rintro e w1 ⟨rfl, rfl⟩
  clear k8
  go_wp2_with fail
  refine k9.mono ?_
  rintro e w1 ⟨rfl, rfl⟩
  clear k9
  go_wp2_with fail
  refine k10.mono ?_
  rintro e w1 ⟨rfl, rfl⟩
  clear k10
  go_wp2_with fail
  refine k11.mono ?_
  rintro e w1 ⟨rfl, rfl⟩
  clear k11
  go_wp2
  go_ret
  exact ⟨by rw [HT.out, ← HLAST.out]; rfl, HB0.out⟩
end Go.Proofs.YtkpkpfolgbpjbaaDoor
namespace Go.Proofs.YtkpkpfolgbpjbaaDoor
open Go.RowKit HeadMath HeadS

def kVal : ByteArray := ⟨#[109, 97, 120, 45, 97, 103, 101, 61, 53, 44, 32, 77, 65, 88, 45, 65, 71, 69, 61, 51, 44, 32, 110, 111, 45, 115, 116, 111, 114, 101]⟩
theorem plain_closed {l : List UInt8} (h : l.all (fun c => c != 34 && c != 44) = true) : Closed l := Closed.plain (fun c hc => by
  have := List.all_eq_true.1 h c hc
  rw [Bool.and_eq_true] at this
  exact ⟨by simpa using this.1, by simpa using this.2⟩)
theorem known_parts : partsF kVal = [⟨#[109, 97, 120, 45, 97, 103, 101, 61, 53]⟩, ⟨#[77, 65, 88, 45, 65, 71, 69, 61, 51]⟩, ⟨#[110, 111, 45, 115, 116, 111, 114, 101]⟩] := by
  have e1 : kVal = arr ([109, 97, 120, 45, 97, 103, 101, 61, 53] ++ 44 :: ([32, 77, 65, 88, 45, 65, 71, 69, 61, 51] ++ 44 :: ([32, 110, 111, 45, 115, 116, 111, 114, 101] ++ []))) := rfl
  rw [e1, parts_step _ _ _ (plain_closed (by decide)) (.inr rfl), parts_step _ _ _ (plain_closed (by decide)) (.inr rfl), parts_step _ _ _ (plain_closed (by decide)) (.inl ⟨rfl, rfl⟩), partsF_nil (v := arr []) rfl]
  decide +kernel
def kFs : List (ByteArray × ByteArray) := [(cacheN, kVal)]
def kCtl : Ctl := ⟨true, false, false, false, false, false, false, false, 3, -1, -1, -1⟩
theorem known_1 : parseF kFs = kCtl := by
  have ha : allF cacheN kFs = [kVal] := by kernel_rfl
  have hl : listF cacheN kFs = [⟨#[109, 97, 120, 45, 97, 103, 101, 61, 53]⟩, ⟨#[77, 65, 88, 45, 65, 71, 69, 61, 51]⟩, ⟨#[110, 111, 45, 115, 116, 111, 114, 101]⟩] := by
    unfold listF
    rw [ha]
    show partsF kVal ++ [] = _
    rw [known_parts]
    rfl
  unfold parseF
  rw [ha, hl, if_neg (by simp)]
  decide +kernel
theorem known_2 : parseF [] = ctl0 := rfl
theorem itoa_3 : Lib.itoa (min 3 2147483647) = [51] := by
  show Lib.itoa 3 = _
  unfold Lib.itoa
  rw [if_neg (by decide)]
  show Lib.decDigits 3 = _
  rw [Lib.decDigits_one (by decide)]
  rfl
theorem known_3 : textF kCtl = [110, 111, 45, 115, 116, 111, 114, 101, 44, 32, 109, 97, 120, 45, 97, 103, 101, 61, 51] := by
  have e : numI kCtl.maxA ⟨#[109, 97, 120, 45, 97, 103, 101]⟩ = [⟨#[109, 97, 120, 45, 97, 103, 101, 61, 51]⟩] := by
    show [numB 3 ⟨#[109, 97, 120, 45, 97, 103, 101]⟩] = _
    unfold numB
    rw [itoa_3]
    rfl
  unfold textF itemsF
  rw [e]
  decide +kernel
theorem k_fields (w : World) (n v : ByteArray) : FieldsIn (w.heap.size + 1) (w.alloc (.cells #[.string n, .string v] 29)) (some ⟨w.heap.size, 0, none⟩) [(n, v)] := by
  intro j hj
  obtain rfl : j = 0 := by simpa using hj
  refine ⟨_, 0, rfl, by omega, ?_, ?_⟩ <;> simp [go_sem]
theorem kFew : FewF kFs := by
  refine ⟨by decide, fun j hj => ?_⟩
  obtain rfl : j = 0 := by simpa [kFs] using hj
  exact (by decide : cacheN.size ≤ 1000000 ∧ kVal.size ≤ 1000000)
theorem nilFew : FewF [] := ⟨by decide, fun j hj => (by cases hj)⟩
theorem nil_in (B : Nat) (w : World) (a : Option Addr) : FieldsIn B w a [] := fun j hj => (by cases hj)
def Yes (w : World) (e : Ending) (w' : World) : Prop := e = .returned (.bool true) ∧ Below w.heap.size w w'
set_option maxRecDepth 100000 in
set_option maxHeartbeats 16000000 in
theorem known_any (w : World) (ht : TabW w) (hw : 1 < w.heap.size) : Calls Tryd.prog 10 #[] w (Yes w) := by
  obtain ⟨w0, hw0⟩ : ∃ w0, w.alloc (.cells #[.string cacheN, .string kVal] 29) = w0 := ⟨_, rfl⟩
  have hz0 : w0.heap.size = w.heap.size + 1 := by rw [← hw0]; simp
  have hb0 : Below w.heap.size w w0 := by rw [← hw0]; exact ((Spares.refl nowhere w).alloc _).below0
  have hin : FieldsIn w0.heap.size w0 (some ⟨w.heap.size, 0, none⟩) kFs := by rw [hz0, ← hw0]; exact k_fields w cacheN kVal
  have cP := parse_any kFs (some ⟨w.heap.size, 0, none⟩) 1 w0 hin kFew
  unfold ParsePost at cP
  rw [known_1] at cP
  have cN := fun w => parse_any [] none 0 w (nil_in _ _ _) nilFew
  unfold ParsePost at cN
  simp only [known_2] at cN
  have cS1 := fun w => seconds_any ⟨#[49, 50]⟩ w (by decide)
  have cS2 := fun w => seconds_any ⟨#[120]⟩ w (by decide)
  unfold SecPost at cS1 cS2
  rw [show secF (⟨#[49, 50]⟩ : ByteArray).data.toList = 12 by kernel_rfl] at cS1
  rw [show secF (⟨#[120]⟩ : ByteArray).data.toList = -1 by kernel_rfl] at cS2
  have HW0 := Lib.hid hw0
  have HB0 := Lib.hid hb0
  have HT := Lib.hid ht
  have HW := Lib.hid hw
  clear hw0 hz0 hb0 hin ht hw
  unfold Yes
  go_enter Tryd.func10, Tryd.ntmps10
  go_wp2_with fail
  change Calls _ _ _ (w.alloc (.cells #[.string cacheN, .string kVal] 29)) _
  rw [HW0.out]
  refine cP.mono ?_
  rintro e w1 ⟨rfl, hb1⟩
  change Below w0.heap.size w0 w1 at hb1
  obtain ⟨v1, hv1⟩ : ∃ v1, w1.alloc (.cells #[.bool true, .bool false, .bool false, .bool false, .bool false, .bool false, .bool false, .bool false, .int .i64 3, .int .i64 (-1), .int .i64 (-1), .int .i64 (-1)] 23) = v1 := ⟨_, rfl⟩
  have hbv1 : Below w.heap.size w v1 := by
    have h1 := HB0.out.trans (hb1.mono HB0.out.size)
    rw [← hv1]; exact h1.alloc h1.size _
  have hc1 : CtlAt v1 w1.heap.size kCtl := by unfold CtlAt; rw [← hv1]; exact heap_alloc_new w1 _
  have HV1 := Lib.hid hv1
  have HBV1 := Lib.hid hbv1
  have HC1 := Lib.hid hc1
  clear hv1 hbv1 hc1 hb1 cP
  unfold ctlV
  go_wp2_with fail
  change Calls _ _ _ (w1.alloc (.cells #[.bool true, .bool false, .bool false, .bool false, .bool false, .bool false, .bool false, .bool false, .int .i64 3, .int .i64 (-1), .int .i64 (-1), .int .i64 (-1)] 23)) _
  rw [HV1.out]
  refine (cN v1).mono ?_
  rintro e w2 ⟨rfl, hb2⟩
  obtain ⟨v2, hv2⟩ : ∃ v2, w2.alloc (.cells #[.bool false, .bool false, .bool false, .bool false, .bool false, .bool false, .bool false, .bool false, .int .i64 (-1), .int .i64 (-1), .int .i64 (-1), .int .i64 (-1)] 23) = v2 := ⟨_, rfl⟩
  have h2 := HBV1.out.trans (hb2.mono HBV1.out.size)
  have hbv2 : Below w.heap.size w v2 := by rw [← hv2]; exact h2.alloc h2.size _
  have hlt : w1.heap.size < v1.heap.size := (Array.getElem?_eq_some_iff.1 HC1.out).1
  have hc2 : CtlAt w2 w1.heap.size kCtl := HC1.out.spares (Below.spares (F := nowhere) hb2 (fun k hk => .inr hk)) (fun h => h)
  have hlt2 : w1.heap.size < w2.heap.size := (Array.getElem?_eq_some_iff.1 hc2).1
  obtain ⟨n0, n1, n2, n3, n4, n5, n6, n7, n8, n9, n10, n11⟩ := ctl_reads hc2
  have cT := text_any kCtl v2 (by unfold Ctl.wide kCtl; decide) (HT.out.below hbv2) (by have := HW.out; have := hbv2.size; omega)
  unfold TextPost at cT
  rw [known_3] at cT
  have HV2 := Lib.hid hv2
  have HBV2 := Lib.hid hbv2
  clear hv2 hbv2 hc2 hb2 h2 cN hlt
  unfold ctlV ctl0
  unfold ctlV kCtl at cT
  simp only [kCtl] at n0 n1 n2 n3 n4 n5 n6 n7 n8 n9 n10 n11
  go_wp2_with fail
  change Calls _ _ _ (w2.alloc (.cells #[.bool false, .bool false, .bool false, .bool false, .bool false, .bool false, .bool false, .bool false, .int .i64 (-1), .int .i64 (-1), .int .i64 (-1), .int .i64 (-1)] 23)) _
  rw [HV2.out]
  refine (cS1 v2).mono ?_
  rintro e w3 ⟨rfl, rfl⟩
  clear cS1
  rw [← HV2.out]
  go_wp2_with fail
  change Calls _ _ _ (w2.alloc (.cells #[.bool false, .bool false, .bool false, .bool false, .bool false, .bool false, .bool false, .bool false, .int .i64 (-1), .int .i64 (-1), .int .i64 (-1), .int .i64 (-1)] 23)) _
  rw [HV2.out]
  refine (cS2 w3).mono ?_
  rintro e w4 ⟨rfl, rfl⟩
  clear cS2
  rw [← HV2.out]
  go_wp2_with fail
  change Calls _ _ _ (w2.alloc (.cells #[.bool false, .bool false, .bool false, .bool false, .bool false, .bool false, .bool false, .bool false, .int .i64 (-1), .int .i64 (-1), .int .i64 (-1), .int .i64 (-1)] 23)) _
  rw [HV2.out]
  refine cT.mono ?_
  rintro e w5 ⟨rfl, hb5⟩
  have HB5 := Lib.hid (HBV2.out.trans (hb5.mono HBV2.out.size))
  clear n0 n1 n2 n3 n4 n5 n6 n7 n8 n9 n10 n11 cT hb5
  go_wp2
  go_ret
  exact ⟨rfl, HB5.out⟩
end Go.Proofs.YtkpkpfolgbpjbaaDoor
namespace Go.Proofs.YtkpkpfolgbpjbaaDoor
open Go.RowKit HeadMath HeadS

/-- The digits of a number say it. -/
theorem fold_digits : ∀ (f n : Nat), n < f → n ≤ 2147483647 → (Lib.decDigits n).all digitB = true ∧ (Lib.decDigits n).foldl stepS (-1) = (n : Int) := by
  intro f
  induction f with
  | zero => intro n h; omega
  | succ f ih =>
    intro n hf hn
    have hd : ∀ k, k < 10 → digitB (UInt8.ofNat (48 + k)) = true ∧ ((UInt8.ofNat (48 + k)).toNat : Int) = 48 + k := by
      intro k hk
      have e : (UInt8.ofNat (48 + k)).toNat = 48 + k := by rw [UInt8.toNat_ofNat']; omega
      refine ⟨?_, by rw [e]; omega⟩
      unfold digitB
      rw [decide_eq_true_iff, e]
      omega
    by_cases h10 : n < 10
    · rw [Lib.decDigits_one h10]
      have := hd n h10
      refine ⟨by rw [List.all_cons, this.1]; rfl, ?_⟩
      show stepS (-1) _ = _
      unfold stepS maxAge
      rw [this.2]
      omega
    · rw [Lib.decDigits, dif_neg h10]
      obtain ⟨h1, h2⟩ := ih (n / 10) (by omega) (by omega)
      have := hd (n % 10) (by omega)
      refine ⟨by rw [List.all_append, h1, List.all_cons, this.1]; rfl, ?_⟩
      rw [List.foldl_append, h2]
      show stepS _ _ = _
      unfold stepS maxAge
      rw [this.2]
      omega
theorem sec_digits (n : Nat) (hn : n ≤ 2147483647) : secF (Lib.decDigits n) = (n : Int) := by
  obtain ⟨h1, h2⟩ := fold_digits (n + 1) n (by omega) hn
  rw [secF_end h1, h2]
theorem digits_cons (n : Nat) : ∃ c r, Lib.decDigits n = c :: r := by
  cases h : Lib.decDigits n with
  | nil =>
    rw [Lib.decDigits] at h
    split at h
    · cases h
    · simp at h
  | cons c r => exact ⟨c, r, rfl⟩
theorem unq_digits (n : Nat) (hn : n ≤ 2147483647) : unqF (Lib.decDigits n) = Lib.decDigits n := by
  obtain ⟨c, r, e⟩ := digits_cons n
  have h1 := (fold_digits (n + 1) n (by omega) hn).1
  rw [e] at h1 ⊢
  unfold unqF
  split
  · rename_i r' e'
    injection e' with e1 _
    subst e1
    rw [List.all_cons, Bool.and_eq_true] at h1
    exact absurd h1.1 (by decide)
  · rfl
/-- A part with a number: its name, its value, its seconds. -/
theorem eq_at (x v : List UInt8) (hx : ∀ c ∈ x, c ≠ 61) : eqAt ⟨(x ++ 61 :: v).toArray⟩ = (x.length : Int) := by
  have hs : (⟨(x ++ 61 :: v).toArray⟩ : ByteArray).size = x.length + (v.length + 1) := by
    show (x ++ 61 :: v).toArray.size = _
    simp
  have hg : ∀ j (h : j < (⟨(x ++ 61 :: v).toArray⟩ : ByteArray).size), (⟨(x ++ 61 :: v).toArray⟩ : ByteArray)[j] = (x ++ 61 :: v)[j]'(by rw [hs] at h; simp; omega) := fun j h => rfl
  refine eq_is (by omega) ?_ ?_
  · rw [hg]
    simp
  · intro j h hj
    rw [hg, List.getElem_append_left hj]
    exact hx _ (List.getElem_mem _)
theorem num_part {n : Int} (h0 : 0 ≤ n) (hn : n ≤ 2147483647) (x : ByteArray) (hx : ∀ c ∈ x.data.toList, c ≠ 61) : namP (numB n x) = x ∧ hasP (numB n x) = true ∧ valSec (valP (numB n x)) = n := by
  obtain ⟨m, rfl⟩ : ∃ m : Nat, n = (m : Int) := ⟨n.toNat, by omega⟩
  have hi : Lib.itoa (min (m : Int) 2147483647) = Lib.decDigits m := by
    rw [show min (m : Int) 2147483647 = (m : Int) by omega]
    unfold Lib.itoa
    rw [if_neg (by omega)]
    rfl
  have hb : numB (m : Int) x = ⟨(x.data.toList ++ 61 :: Lib.decDigits m).toArray⟩ := by
    unfold numB
    rw [hi]
    apply bytes_injC
    rw [ByteArray.data_append, ByteArray.data_append]
    simp
  have he := eq_at x.data.toList (Lib.decDigits m) hx
  rw [← hb] at he
  have hneg : ¬ eqAt (numB (m : Int) x) < 0 := by omega
  have hl : (numB (m : Int) x).data.toList = x.data.toList ++ 61 :: Lib.decDigits m := by rw [hb]
  have hsz := size_list (numB (m : Int) x)
  have hv : valP (numB (m : Int) x) = ⟨(Lib.decDigits m).toArray⟩ := by
    apply bytes_injC
    unfold valP
    rw [if_neg hneg, Lib.extract_data, he, hl]
    rw [hl, List.length_append, List.length_cons] at hsz
    rw [show ((x.data.toList.length : Int)).toNat + 1 = x.data.toList.length + 1 by omega, List.drop_append, List.drop_of_length_le (by omega)]
    rw [show x.data.toList.length + 1 - x.data.toList.length = 1 by omega]
    simp only [List.drop_succ_cons, List.drop_zero, List.nil_append]
    rw [List.take_of_length_le (by omega)]
  refine ⟨?_, ?_, ?_⟩
  · apply bytes_injC
    unfold namP
    rw [if_neg hneg, Lib.extract_data, he, hl]
    simp
  · unfold hasP; rw [decide_eq_false hneg]; rfl
  · unfold valSec
    rw [hv]
    show max (secF (unqF (Lib.decDigits m))) 0 = _
    rw [unq_digits m (by omega), sec_digits m (by omega)]
    omega
/-- A part that stands for itself in a list. -/
def ItemB (x : ByteArray) : Prop := x.data.toList ≠ [] ∧ ∀ c ∈ x.data.toList, (c ≠ 34 ∧ c ≠ 44) ∧ blankB c = false
theorem item_bare {x : ByteArray} (h : ItemB x) : Bare x.data.toList :=
  ⟨fun c hc => (h.2 c (List.mem_of_head? hc)).2, fun c hc => (h.2 c (List.mem_of_getLast? hc)).2⟩
theorem told_item {x : ByteArray} (h : ItemB x) : told (arr x.data.toList) = [x] := by
  have e : arr x.data.toList = x := rfl
  rw [e]
  unfold told
  rw [if_neg]
  intro h0
  rw [← size_list] at h0
  exact h.1 (List.eq_nil_of_length_eq_zero h0)
theorem parts_tail : ∀ (l : List ByteArray) (u : List UInt8) (x : ByteArray), (u = [] ∨ u = [32]) → ItemB x → (∀ y ∈ l, ItemB y) → partsF (arr (u ++ x.data.toList ++ Lib.joinTail [44, 32] (l.map (·.data.toList)))) = x :: l
  | [], u, x, hu, hx, _ => by
    have hc : Closed (u ++ x.data.toList) := Closed.append (by rcases hu with rfl | rfl; exact plain_closed rfl; exact plain_closed rfl) (Closed.plain fun c hc => (hx.2 c hc).1)
    have ht : trimF (u ++ x.data.toList) = x.data.toList := by
      have := trimF_of (u := u) (x := x.data.toList) (v := []) (by rcases hu with rfl | rfl <;> decide) (fun c h => by cases h) (item_bare hx)
      rwa [List.append_nil] at this
    show partsF (arr (u ++ x.data.toList ++ [])) = _
    rw [parts_step _ [] [] hc (.inl ⟨rfl, rfl⟩), ht, told_item hx, partsF_nil (v := arr []) rfl]
    rfl
  | y :: l, u, x, hu, hx, hl => by
    have hc : Closed (u ++ x.data.toList) := Closed.append (by rcases hu with rfl | rfl; exact plain_closed rfl; exact plain_closed rfl) (Closed.plain fun c hc => (hx.2 c hc).1)
    have ht : trimF (u ++ x.data.toList) = x.data.toList := by
      have := trimF_of (u := u) (x := x.data.toList) (v := []) (by rcases hu with rfl | rfl <;> decide) (fun c h => by cases h) (item_bare hx)
      rwa [List.append_nil] at this
    have e : Lib.joinTail [44, 32] ((y :: l).map (·.data.toList)) = 44 :: ([32] ++ y.data.toList ++ Lib.joinTail [44, 32] (l.map (·.data.toList))) := rfl
    rw [e, parts_step _ _ _ hc (.inr rfl), ht, told_item hx, parts_tail l [32] y (.inr rfl) (hl y (by simp)) (fun z hz => hl z (by simp [hz]))]
    rfl
theorem parts_join : ∀ (l : List ByteArray), (∀ y ∈ l, ItemB y) → partsF (outB l) = l
  | [], _ => partsF_nil (v := outB []) rfl
  | x :: l, h => by
    have e : outB (x :: l) = arr ([] ++ x.data.toList ++ Lib.joinTail [44, 32] (l.map (·.data.toList))) := by
      unfold outB
      rw [List.map_cons, Lib.join_cons]
      rfl
    rw [e]
    exact parts_tail l [] x (.inl rfl) (h x (by simp)) (fun z hz => h z (by simp [hz]))
theorem item_lit {x : ByteArray} (h : (!x.data.toList.isEmpty && x.data.toList.all (fun c => (c != 34 && c != 44) && !blankB c)) = true) : ItemB x := by
  rw [Bool.and_eq_true] at h
  refine ⟨by simpa using h.1, fun c hc => ?_⟩
  have := List.all_eq_true.1 h.2 c hc
  rw [Bool.and_eq_true, Bool.and_eq_true] at this
  exact ⟨⟨by simpa using this.1.1, by simpa using this.1.2⟩, by simpa using this.2⟩
theorem item_num {n : Int} (h0 : 0 ≤ n) (hn : n ≤ 2147483647) {x : ByteArray} (hx : ItemB x) : ItemB (numB n x) := by
  have hl : (numB n x).data.toList = x.data.toList ++ ([61] ++ Lib.itoa (min n 2147483647)) := by
    unfold numB
    rw [ByteArray.data_append, ByteArray.data_append]
    simp
  obtain ⟨m, rfl⟩ : ∃ m : Nat, n = (m : Int) := ⟨n.toNat, by omega⟩
  have hi : Lib.itoa (min (m : Int) 2147483647) = Lib.decDigits m := by
    rw [show min (m : Int) 2147483647 = (m : Int) by omega]
    unfold Lib.itoa
    rw [if_neg (by omega)]
    rfl
  rw [hi] at hl
  have hd := (fold_digits (m + 1) m (by omega) (by omega)).1
  refine ⟨by rw [hl]; intro h; exact hx.1 (List.append_eq_nil_iff.1 h).1, fun c hc => ?_⟩
  rw [hl] at hc
  rcases List.mem_append.1 hc with h | h
  · exact hx.2 c h
  · rcases List.mem_append.1 h with h | h
    · obtain rfl : c = 61 := by simpa using h
      decide
    · have := List.all_eq_true.1 hd c h
      unfold digitB at this
      rw [decide_eq_true_iff] at this
      refine ⟨⟨fun e => ?_, fun e => ?_⟩, ?_⟩
      · subst e; exact absurd this (by decide)
      · subst e; exact absurd this (by decide)
      · unfold blankB
        rw [Bool.or_eq_false_iff, beq_eq_false_iff_ne, beq_eq_false_iff_ne]
        refine ⟨fun e => ?_, fun e => ?_⟩
        · subst e; exact absurd this (by decide)
        · subst e; exact absurd this (by decide)
def Ctl.fair (c : Ctl) : Prop := (-1 ≤ c.maxA ∧ c.maxA ≤ 2147483647) ∧ (-1 ≤ c.sMax ∧ c.sMax ≤ 2147483647) ∧ (-1 ≤ c.minF ∧ c.minF ≤ 2147483647) ∧ (-1 ≤ c.maxS ∧ c.maxS ≤ 2147483647)
theorem mem_flag {b : Bool} {x y : ByteArray} (h : y ∈ flagI b x) : y = x := by unfold flagI at h; split at h; simpa using h; cases h
theorem mem_num {n : Int} {x y : ByteArray} (h : y ∈ numI n x) : 0 ≤ n ∧ y = numB n x := by
  unfold numI at h
  split at h
  · exact ⟨by assumption, by simpa using h⟩
  · cases h
theorem items_item {c : Ctl} (hc : c.fair) : ∀ y ∈ itemsF c, ItemB y := by
  intro y hy
  unfold itemsF at hy
  simp only [List.mem_append, List.not_mem_nil, false_or] at hy
  rcases hy with ((((((((((h | h) | h) | h) | h) | h) | h) | h) | h) | h) | h) | h
  · rw [mem_flag h]; exact item_lit rfl
  · rw [mem_flag h]; exact item_lit rfl
  · rw [mem_flag h]; exact item_lit rfl
  · rw [mem_flag h]; exact item_lit rfl
  · rw [mem_flag h]; exact item_lit rfl
  · rw [mem_flag h]; exact item_lit rfl
  · rw [mem_flag h]; exact item_lit rfl
  · obtain ⟨h0, rfl⟩ := mem_num h; exact item_num h0 hc.1.2 (item_lit rfl)
  · obtain ⟨h0, rfl⟩ := mem_num h; exact item_num h0 hc.2.1.2 (item_lit rfl)
  · obtain ⟨h0, rfl⟩ := mem_num h; exact item_num h0 hc.2.2.1.2 (item_lit rfl)
  · rw [mem_flag h]; exact item_lit rfl
  · obtain ⟨h0, rfl⟩ := mem_num h; exact item_num h0 hc.2.2.2.2 (item_lit rfl)
theorem fold_flag (b : Bool) (x : ByteArray) (s : Ctl) : (flagI b x).foldl sayF s = if b then sayF s x else s := by unfold flagI; split <;> rfl
theorem fold_num (n : Int) (x : ByteArray) (s : Ctl) : (numI n x).foldl sayF s = if 0 ≤ n then sayF s (numB n x) else s := by unfold numI; split <;> rfl
theorem say_noStore (s : Ctl) : sayF s ⟨#[110, 111, 45, 115, 116, 111, 114, 101]⟩ = { s with noStore := true } := by
  have h1 : kindP ⟨#[110, 111, 45, 115, 116, 111, 114, 101]⟩ = 0 := by decide +kernel
  have h2 : hasP ⟨#[110, 111, 45, 115, 116, 111, 114, 101]⟩ = false := by decide +kernel
  unfold sayF
  rw [h1, h2]
  rfl
theorem say_noCache (s : Ctl) : sayF s ⟨#[110, 111, 45, 99, 97, 99, 104, 101]⟩ = { s with noCache := true } := by
  have h1 : kindP ⟨#[110, 111, 45, 99, 97, 99, 104, 101]⟩ = 1 := by decide +kernel
  have h2 : hasP ⟨#[110, 111, 45, 99, 97, 99, 104, 101]⟩ = false := by decide +kernel
  unfold sayF
  rw [h1, h2]
  rfl
theorem say_priv (s : Ctl) : sayF s ⟨#[112, 114, 105, 118, 97, 116, 101]⟩ = { s with priv := true } := by
  have h1 : kindP ⟨#[112, 114, 105, 118, 97, 116, 101]⟩ = 2 := by decide +kernel
  have h2 : hasP ⟨#[112, 114, 105, 118, 97, 116, 101]⟩ = false := by decide +kernel
  unfold sayF
  rw [h1, h2]
  rfl
theorem say_pub (s : Ctl) : sayF s ⟨#[112, 117, 98, 108, 105, 99]⟩ = { s with pub := true } := by
  have h1 : kindP ⟨#[112, 117, 98, 108, 105, 99]⟩ = 3 := by decide +kernel
  have h2 : hasP ⟨#[112, 117, 98, 108, 105, 99]⟩ = false := by decide +kernel
  unfold sayF
  rw [h1, h2]
  rfl
theorem say_must (s : Ctl) : sayF s ⟨#[109, 117, 115, 116, 45, 114, 101, 118, 97, 108, 105, 100, 97, 116, 101]⟩ = { s with must := true } := by
  have h1 : kindP ⟨#[109, 117, 115, 116, 45, 114, 101, 118, 97, 108, 105, 100, 97, 116, 101]⟩ = 4 := by decide +kernel
  have h2 : hasP ⟨#[109, 117, 115, 116, 45, 114, 101, 118, 97, 108, 105, 100, 97, 116, 101]⟩ = false := by decide +kernel
  unfold sayF
  rw [h1, h2]
  rfl
theorem say_prox (s : Ctl) : sayF s ⟨#[112, 114, 111, 120, 121, 45, 114, 101, 118, 97, 108, 105, 100, 97, 116, 101]⟩ = { s with prox := true } := by
  have h1 : kindP ⟨#[112, 114, 111, 120, 121, 45, 114, 101, 118, 97, 108, 105, 100, 97, 116, 101]⟩ = 5 := by decide +kernel
  have h2 : hasP ⟨#[112, 114, 111, 120, 121, 45, 114, 101, 118, 97, 108, 105, 100, 97, 116, 101]⟩ = false := by decide +kernel
  unfold sayF
  rw [h1, h2]
  rfl
theorem say_only (s : Ctl) : sayF s ⟨#[111, 110, 108, 121, 45, 105, 102, 45, 99, 97, 99, 104, 101, 100]⟩ = { s with only := true } := by
  have h1 : kindP ⟨#[111, 110, 108, 121, 45, 105, 102, 45, 99, 97, 99, 104, 101, 100]⟩ = 6 := by decide +kernel
  have h2 : hasP ⟨#[111, 110, 108, 121, 45, 105, 102, 45, 99, 97, 99, 104, 101, 100]⟩ = false := by decide +kernel
  unfold sayF
  rw [h1, h2]
  rfl
theorem say_maxA (s : Ctl) {n : Int} (h0 : 0 ≤ n) (hn : n ≤ 2147483647) : sayF s (numB n ⟨#[109, 97, 120, 45, 97, 103, 101]⟩) = { s with maxA := leastF s.maxA n } := by
  obtain ⟨e1, e2, e3⟩ := num_part h0 hn ⟨#[109, 97, 120, 45, 97, 103, 101]⟩ (by decide)
  have h1 : kindP (numB n ⟨#[109, 97, 120, 45, 97, 103, 101]⟩) = 7 := by unfold kindP; rw [e1]; decide +kernel
  unfold sayF
  rw [h1, e2, e3]
  rfl
theorem say_sMax (s : Ctl) {n : Int} (h0 : 0 ≤ n) (hn : n ≤ 2147483647) : sayF s (numB n ⟨#[115, 45, 109, 97, 120, 97, 103, 101]⟩) = { s with sMax := leastF s.sMax n } := by
  obtain ⟨e1, e2, e3⟩ := num_part h0 hn ⟨#[115, 45, 109, 97, 120, 97, 103, 101]⟩ (by decide)
  have h1 : kindP (numB n ⟨#[115, 45, 109, 97, 120, 97, 103, 101]⟩) = 8 := by unfold kindP; rw [e1]; decide +kernel
  unfold sayF
  rw [h1, e2, e3]
  rfl
theorem say_minF (s : Ctl) {n : Int} (h0 : 0 ≤ n) (hn : n ≤ 2147483647) : sayF s (numB n ⟨#[109, 105, 110, 45, 102, 114, 101, 115, 104]⟩) = { s with minF := leastF s.minF n } := by
  obtain ⟨e1, e2, e3⟩ := num_part h0 hn ⟨#[109, 105, 110, 45, 102, 114, 101, 115, 104]⟩ (by decide)
  have h1 : kindP (numB n ⟨#[109, 105, 110, 45, 102, 114, 101, 115, 104]⟩) = 9 := by unfold kindP; rw [e1]; decide +kernel
  unfold sayF
  rw [h1, e2, e3]
  rfl
theorem say_anyStale (s : Ctl) : sayF s ⟨#[109, 97, 120, 45, 115, 116, 97, 108, 101]⟩ = { s with anyStale := true } := by
  have h1 : kindP ⟨#[109, 97, 120, 45, 115, 116, 97, 108, 101]⟩ = 10 := by decide +kernel
  have h2 : hasP ⟨#[109, 97, 120, 45, 115, 116, 97, 108, 101]⟩ = false := by decide +kernel
  unfold sayF
  rw [h1, h2]
  rfl
theorem say_maxS (s : Ctl) {n : Int} (h0 : 0 ≤ n) (hn : n ≤ 2147483647) : sayF s (numB n ⟨#[109, 97, 120, 45, 115, 116, 97, 108, 101]⟩) = { s with maxS := leastF s.maxS n } := by
  obtain ⟨e1, e2, e3⟩ := num_part h0 hn ⟨#[109, 97, 120, 45, 115, 116, 97, 108, 101]⟩ (by decide)
  have h1 : kindP (numB n ⟨#[109, 97, 120, 45, 115, 116, 97, 108, 101]⟩) = 10 := by unfold kindP; rw [e1]; decide +kernel
  unfold sayF
  rw [h1, e2, e3]
  rfl
theorem least_new {n : Int} : leastF (-1) n = n := by unfold leastF; rw [if_pos (.inl rfl)]
theorem ctl_back {c : Ctl} (hc : c.fair) : ctlL (itemsF c) = c := by
  obtain ⟨a0, a1, a2, a3, a4, a5, a6, a7, m, sm, mf, ms⟩ := c
  obtain ⟨hm, hsm, hmf, hms⟩ := hc
  simp only at hm hsm hmf hms
  have num : ∀ {n : Int}, -1 ≤ n → ¬ 0 ≤ n → n = -1 := fun h1 h2 => by omega
  unfold ctlL itemsF
  simp only [List.foldl_append, List.foldl_nil, fold_flag, fold_num]
  have e0 : (if a0 = true then sayF ctl0 ⟨#[110, 111, 45, 115, 116, 111, 114, 101]⟩ else ctl0) = (⟨a0, false, false, false, false, false, false, false, -1, -1, -1, -1⟩ : Ctl) := by
    cases a0
    · rfl
    · rw [if_pos rfl, say_noStore]; rfl
  rw [e0]
  have e1 : (if a1 = true then sayF (⟨a0, false, false, false, false, false, false, false, -1, -1, -1, -1⟩ : Ctl) ⟨#[110, 111, 45, 99, 97, 99, 104, 101]⟩ else (⟨a0, false, false, false, false, false, false, false, -1, -1, -1, -1⟩ : Ctl)) = (⟨a0, a1, false, false, false, false, false, false, -1, -1, -1, -1⟩ : Ctl) := by
    cases a1
    · rfl
    · rw [if_pos rfl, say_noCache]
  rw [e1]
  have e2 : (if a2 = true then sayF (⟨a0, a1, false, false, false, false, false, false, -1, -1, -1, -1⟩ : Ctl) ⟨#[112, 114, 105, 118, 97, 116, 101]⟩ else (⟨a0, a1, false, false, false, false, false, false, -1, -1, -1, -1⟩ : Ctl)) = (⟨a0, a1, a2, false, false, false, false, false, -1, -1, -1, -1⟩ : Ctl) := by
    cases a2
    · rfl
    · rw [if_pos rfl, say_priv]
  rw [e2]
  have e3 : (if a3 = true then sayF (⟨a0, a1, a2, false, false, false, false, false, -1, -1, -1, -1⟩ : Ctl) ⟨#[112, 117, 98, 108, 105, 99]⟩ else (⟨a0, a1, a2, false, false, false, false, false, -1, -1, -1, -1⟩ : Ctl)) = (⟨a0, a1, a2, a3, false, false, false, false, -1, -1, -1, -1⟩ : Ctl) := by
    cases a3
    · rfl
    · rw [if_pos rfl, say_pub]
  rw [e3]
  have e4 : (if a4 = true then sayF (⟨a0, a1, a2, a3, false, false, false, false, -1, -1, -1, -1⟩ : Ctl) ⟨#[109, 117, 115, 116, 45, 114, 101, 118, 97, 108, 105, 100, 97, 116, 101]⟩ else (⟨a0, a1, a2, a3, false, false, false, false, -1, -1, -1, -1⟩ : Ctl)) = (⟨a0, a1, a2, a3, a4, false, false, false, -1, -1, -1, -1⟩ : Ctl) := by
    cases a4
    · rfl
    · rw [if_pos rfl, say_must]
  rw [e4]
  have e5 : (if a5 = true then sayF (⟨a0, a1, a2, a3, a4, false, false, false, -1, -1, -1, -1⟩ : Ctl) ⟨#[112, 114, 111, 120, 121, 45, 114, 101, 118, 97, 108, 105, 100, 97, 116, 101]⟩ else (⟨a0, a1, a2, a3, a4, false, false, false, -1, -1, -1, -1⟩ : Ctl)) = (⟨a0, a1, a2, a3, a4, a5, false, false, -1, -1, -1, -1⟩ : Ctl) := by
    cases a5
    · rfl
    · rw [if_pos rfl, say_prox]
  rw [e5]
  have e6 : (if a6 = true then sayF (⟨a0, a1, a2, a3, a4, a5, false, false, -1, -1, -1, -1⟩ : Ctl) ⟨#[111, 110, 108, 121, 45, 105, 102, 45, 99, 97, 99, 104, 101, 100]⟩ else (⟨a0, a1, a2, a3, a4, a5, false, false, -1, -1, -1, -1⟩ : Ctl)) = (⟨a0, a1, a2, a3, a4, a5, a6, false, -1, -1, -1, -1⟩ : Ctl) := by
    cases a6
    · rfl
    · rw [if_pos rfl, say_only]
  rw [e6]
  have e7 : (if 0 ≤ m then sayF (⟨a0, a1, a2, a3, a4, a5, a6, false, -1, -1, -1, -1⟩ : Ctl) (numB m ⟨#[109, 97, 120, 45, 97, 103, 101]⟩) else (⟨a0, a1, a2, a3, a4, a5, a6, false, -1, -1, -1, -1⟩ : Ctl)) = (⟨a0, a1, a2, a3, a4, a5, a6, false, m, -1, -1, -1⟩ : Ctl) := by
    by_cases h : 0 ≤ m
    · rw [if_pos h, say_maxA _ h hm.2]; simp only [least_new]
    · rw [if_neg h, num hm.1 h]
  rw [e7]
  have e8 : (if 0 ≤ sm then sayF (⟨a0, a1, a2, a3, a4, a5, a6, false, m, -1, -1, -1⟩ : Ctl) (numB sm ⟨#[115, 45, 109, 97, 120, 97, 103, 101]⟩) else (⟨a0, a1, a2, a3, a4, a5, a6, false, m, -1, -1, -1⟩ : Ctl)) = (⟨a0, a1, a2, a3, a4, a5, a6, false, m, sm, -1, -1⟩ : Ctl) := by
    by_cases h : 0 ≤ sm
    · rw [if_pos h, say_sMax _ h hsm.2]; simp only [least_new]
    · rw [if_neg h, num hsm.1 h]
  rw [e8]
  have e9 : (if 0 ≤ mf then sayF (⟨a0, a1, a2, a3, a4, a5, a6, false, m, sm, -1, -1⟩ : Ctl) (numB mf ⟨#[109, 105, 110, 45, 102, 114, 101, 115, 104]⟩) else (⟨a0, a1, a2, a3, a4, a5, a6, false, m, sm, -1, -1⟩ : Ctl)) = (⟨a0, a1, a2, a3, a4, a5, a6, false, m, sm, mf, -1⟩ : Ctl) := by
    by_cases h : 0 ≤ mf
    · rw [if_pos h, say_minF _ h hmf.2]; simp only [least_new]
    · rw [if_neg h, num hmf.1 h]
  rw [e9]
  have e10 : (if a7 = true then sayF (⟨a0, a1, a2, a3, a4, a5, a6, false, m, sm, mf, -1⟩ : Ctl) ⟨#[109, 97, 120, 45, 115, 116, 97, 108, 101]⟩ else (⟨a0, a1, a2, a3, a4, a5, a6, false, m, sm, mf, -1⟩ : Ctl)) = (⟨a0, a1, a2, a3, a4, a5, a6, a7, m, sm, mf, -1⟩ : Ctl) := by
    cases a7
    · rfl
    · rw [if_pos rfl, say_anyStale]
  rw [e10]
  have e11 : (if 0 ≤ ms then sayF (⟨a0, a1, a2, a3, a4, a5, a6, a7, m, sm, mf, -1⟩ : Ctl) (numB ms ⟨#[109, 97, 120, 45, 115, 116, 97, 108, 101]⟩) else (⟨a0, a1, a2, a3, a4, a5, a6, a7, m, sm, mf, -1⟩ : Ctl)) = (⟨a0, a1, a2, a3, a4, a5, a6, a7, m, sm, mf, ms⟩ : Ctl) := by
    by_cases h : 0 ≤ ms
    · rw [if_pos h, say_maxS _ h hms.2]; simp only [least_new]
    · rw [if_neg h, num hms.1 h]
  rw [e11]
def cacheL : ByteArray := ⟨#[99, 97, 99, 104, 101, 45, 99, 111, 110, 116, 114, 111, 108]⟩
theorem parse_back {c : Ctl} (hc : c.fair) (t : ByteArray) (ht : t = outB (itemsF c)) : parseF [(cacheL, t)] = c := by
  have ha : allF cacheN [(cacheL, t)] = [t] := by
    unfold allF
    have : isNamed cacheN (cacheL, t) = true := by show sameF cacheL.data.toList cacheN.data.toList = true; decide +kernel
    simp [this]
  unfold parseF
  rw [ha, if_neg (by simp)]
  unfold listF
  rw [ha]
  show ctlL (partsF t ++ []) = c
  rw [List.append_nil, ht, parts_join _ (items_item hc), ctl_back hc]
end Go.Proofs.YtkpkpfolgbpjbaaDoor
