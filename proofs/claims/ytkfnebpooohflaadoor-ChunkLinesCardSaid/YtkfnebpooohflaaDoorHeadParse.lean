/-
  Lines read as fields, in the program.
-/
import Derived.Test.YtkfnebpooohflaaDoorHeadCut
import Derived.Test.YtkfnebpooohflaaDoorHeadRefSame
namespace Go.Proofs.YtkfnebpooohflaaDoor.HeadS
open Go.RowKit HeadMath

/-- A row of texts in memory. -/
def StrsIn (B : Nat) (w : World) (a : Option Addr) (ls : List ByteArray) : Prop :=
  ∀ j (h : j < ls.length), ∃ b off, a = some ⟨b, off, none⟩ ∧ b < B ∧ w.cell? ⟨b, off + j, none⟩ = some (.string ls[j])
def Small (ls : List ByteArray) : Prop := ∀ j (h : j < ls.length), ls[j].size ≤ 140737488351232

def fieldAt (s : ByteArray) (i : Nat) : ByteArray × ByteArray := (s.extract 0 i, ⟨(trimF (s.extract (i + 1) s.size).data.toList).toArray⟩)
def fieldOf (s : ByteArray) : Option (ByteArray × ByteArray) :=
  if colonAt s < 0 then none
  else if tokenF (fieldAt s (colonAt s).toNat).1.data.toList = true ∧ valueF (fieldAt s (colonAt s).toNat).2.data.toList = true then some (fieldAt s (colonAt s).toNat) else none
def parseF : List ByteArray → Option (List (ByteArray × ByteArray))
  | [] => some []
  | s :: l => match fieldOf s with
    | none => none
    | some f => match parseF l with
      | none => none
      | some fs => some (f :: fs)
theorem parseF_snoc (l : List ByteArray) (s : ByteArray) : parseF (l ++ [s]) = match parseF l with
    | none => none
    | some fs => match fieldOf s with
      | none => none
      | some f => some (fs ++ [f]) := by
  induction l with
  | nil =>
    show parseF [s] = _
    unfold parseF
    cases fieldOf s <;> rfl
  | cons t l ih =>
    simp only [List.cons_append, parseF]
    cases fieldOf t with
    | none => rfl
    | some f =>
      simp only [ih]
      cases parseF l with
      | none => rfl
      | some fs => simp only []; cases fieldOf s <;> rfl
theorem parseF_none_of {l : List ByteArray} {k : Nat} (h : k < l.length) (hn : fieldOf l[k] = none) : parseF l = none := by
  induction l generalizing k with
  | nil => exact absurd h (by simp)
  | cons t l ih =>
    unfold parseF
    cases k with
    | zero => simp at hn; rw [hn]
    | succ k =>
      simp at hn h
      cases fieldOf t with
      | none => rfl
      | some f => simp only []; rw [ih h hn]
theorem parseF_take {l : List ByteArray} {k : Nat} (h : k < l.length) {fs : List (ByteArray × ByteArray)} {f : ByteArray × ByteArray} (h1 : parseF (l.take k) = some fs) (h2 : fieldOf l[k] = some f) :
    parseF (l.take (k + 1)) = some (fs ++ [f]) := by
  rw [List.take_succ_eq_append_getElem h, parseF_snoc, h1]
  simp only [h2]
theorem parseF_len {l : List ByteArray} {fs : List (ByteArray × ByteArray)} (h : parseF l = some fs) : fs.length = l.length := by
  induction l generalizing fs with
  | nil => simp [parseF] at h; subst h; rfl
  | cons t l ih =>
    unfold parseF at h
    cases h1 : fieldOf t with
    | none => rw [h1] at h; cases h
    | some f =>
      rw [h1] at h
      simp only [] at h
      cases h2 : parseF l with
      | none => rw [h2] at h; cases h
      | some gs =>
        rw [h2] at h
        cases h
        simp [ih h2]

def fieldCells (l : List (ByteArray × ByteArray)) : List Value := l.flatMap fun x => [.string x.1, .string x.2]
theorem fieldCells_snoc (l : List (ByteArray × ByteArray)) (x : ByteArray × ByteArray) : fieldCells (l ++ [x]) = fieldCells l ++ [.string x.1, .string x.2] := by simp [fieldCells]
theorem fieldInfo : (Tryd.prog.info? 69).map (fun i => (i.zero, i.size, i.bytes)) = some (some (.agg #[.string ⟨#[]⟩, .string ⟨#[]⟩]), 2, 32) := by kernel_rfl

def ParsePost (w : World) (ls : List ByteArray) (e : Ending) (w' : World) : Prop :=
  Below w.heap.size w w' ∧
  ((100 < ls.length ∧ e = .returned (.tuple #[.slice none 0 0, .int .i64 91])) ∨
   (ls.length ≤ 100 ∧ parseF ls = none ∧ e = .returned (.tuple #[.slice none 0 0, .int .i64 90])) ∨
   (ls.length ≤ 100 ∧ ∃ fs v, parseF ls = some fs ∧ e = .returned (.tuple #[v, .int .i64 0]) ∧ w'.ownsRow w.heap.size 69 2 v fs.length (fieldCells fs)))

theorem ownsRow_below {w w' : World} {base : Nat} {e : TypeId} {size : Nat} {v : Value} {n : Nat} {xs : List Value} (h : w.ownsRow base e size v n xs) (hb : Below w.heap.size w w') : w'.ownsRow base e size v n xs := by
  refine ⟨h.1, ?_⟩
  rcases h.2 with h0 | ⟨g, cap, cur, hv, hg, hc, rest⟩
  · exact .inl h0
  · refine .inr ⟨g, cap, cur, hv, hg, ?_, rest⟩
    have hlt : g < w.heap.size := by
      rcases Nat.lt_or_ge g w.heap.size with h1 | h1
      · exact h1
      · rw [Array.getElem?_eq_none h1] at hc; cases hc
    rw [hb.block g hlt]; exact hc
theorem fieldOf_none {s : ByteArray} (h : colonAt s < 0) : fieldOf s = none := by unfold fieldOf; rw [if_pos h]
theorem fieldOf_named {s nm rest vl : ByteArray} {i : Nat} (h : colonAt s = i) (h1 : s.extract 0 i = nm) (h2 : s.extract (i + 1) s.size = rest) (h3 : (⟨(trimF rest.data.toList).toArray⟩ : ByteArray) = vl) :
    fieldOf s = if tokenF nm.data.toList = true ∧ valueF vl.data.toList = true then some (nm, vl) else none := by
  subst h1 h2 h3
  unfold fieldOf
  rw [if_neg (by omega), h]; rfl
theorem cut_named {s nm rest : ByteArray} {i : Nat} (w : World) (hs : s.size ≤ 140737488351232) (h : colonAt s = i) (h1 : s.extract 0 i = nm) (h2 : s.extract (i + 1) s.size = rest) :
    Calls Tryd.prog 45 #[.string s, .string { data := #[58] }] w (DrewPost w (.tuple #[.string nm, .string rest, .bool true])) := by
  subst h1 h2
  exact cut_some s w hs i h
theorem trim_named {s vl : ByteArray} (w : World) (hs : s.size ≤ 140737488351232) (h : (⟨(trimF s.data.toList).toArray⟩ : ByteArray) = vl) :
    Calls Tryd.prog 35 #[.string s] w fun e w' => e = .returned (.string vl) ∧ Below w.heap.size w w' := by
  subst h
  exact trim_any s w hs
theorem trimSize {s : ByteArray} {n : Nat} (h : s.size ≤ n) : (⟨(trimF s.data.toList).toArray⟩ : ByteArray).size ≤ n := Nat.le_trans (size_trim s) h

set_option maxHeartbeats 4000000 in
theorem parse_some (ls : List ByteArray) (a : Option Addr) (cap : Nat) (w : World) (hin : StrsIn w.heap.size w a ls) (hsm : Small ls) (hle : ls.length ≤ 140737488351232) : Calls Tryd.prog 37 #[.slice a ls.length cap] w (ParsePost w ls) := by
  obtain ⟨i0, hi, hz0, hz1, hz2⟩ := info_parts fieldInfo
  have HIN := Lib.hid hin
  clear hin
  have hn0 : ({ data := #[] } : ByteArray).size = 0 := rfl
  go_enter Tryd.func37, Tryd.ntmps37
  by_cases hm : (100 : Int) < ls.length
  · go_wp2
    go_ret2
    exact ⟨Below.refl _ _, .inl ⟨by omega, rfl⟩⟩
  · go_wp2
    go_loopw [4, 15] (fun v i wr => ∃ (k : Nat) (fs : List (ByteArray × ByteArray)), k ≤ ls.length ∧ i = .int .i64 k ∧ Hid (parseF (ls.take k) = some fs) ∧ fs.length = k ∧
        wr.ownsRow w.heap.size 69 2 v fs.length (fieldCells fs) ∧ Below w.heap.size w wr)
      (fun _ i _ => ls.length - (intOf i).toNat)
    case atStart => exact ⟨0, [], Nat.zero_le _, rfl, Lib.hid rfl, rfl, World.ownsRow_nil _ _ _ _, Below.refl _ _⟩
    case round =>
      obtain ⟨k, fs, hk, rfl, HP, hfl, hown, hb⟩ := hrel
      by_cases hlt : k < ls.length
      · obtain ⟨b, off, rfl, hbl, hcell⟩ := HIN.out k hlt
        have hc := (hb.cell (p := ⟨b, off + k, none⟩) hbl).trans hcell
        clear hcell
        have HS := Lib.hid (show ls[k]? = some ls[k] from List.getElem?_eq_getElem hlt)
        have hssz := hsm k hlt
        generalize hsk : ls[k] = s at *
        have HK := Lib.hid hsk
        clear hsk
        by_cases hneg : colonAt s < 0
        · have HN := Lib.hid (parseF_none_of hlt (by rw [HK.out]; exact fieldOf_none hneg))
          go_wp2_with fail
          refine (cut_none s _ hssz hneg).mono ?_
          rintro e w1 ⟨m, rfl, rfl⟩
          go_wp2_with fail
          refine (trim_any _ _ (by rw [hn0]; omega)).mono ?_
          rintro e w2 ⟨rfl, hb2⟩
          go_wp2
          go_ret2
          exact ⟨(below_drewN hb m).trans (hb2.mono (below_drewN hb m).size), .inr (.inl ⟨by omega, HN.out, rfl⟩)⟩
        · obtain ⟨i, hci⟩ : ∃ i : Nat, colonAt s = i := ⟨(colonAt s).toNat, by omega⟩
          have his := colon_le s hci
          have HC := Lib.hid hci
          obtain ⟨nm, h1⟩ : ∃ nm, s.extract 0 i = nm := ⟨_, rfl⟩
          obtain ⟨rest, h2⟩ : ∃ rest, s.extract (i + 1) s.size = rest := ⟨_, rfl⟩
          obtain ⟨vl, h3⟩ : ∃ vl, (⟨(trimF rest.data.toList).toArray⟩ : ByteArray) = vl := ⟨_, rfl⟩
          have hx1 : nm.size ≤ 140737488351232 := by rw [← h1, extract_size s 0 i (Nat.zero_le _) (by omega)]; omega
          have hx2 : rest.size ≤ 140737488351232 := by rw [← h2, extract_size s (i + 1) s.size (by omega) (Nat.le_refl _)]; omega
          have hx3 : vl.size ≤ 140737488351232 := by rw [← h3]; exact trimSize hx2
          have HF := Lib.hid (fieldOf_named hci h1 h2 h3)
          have H1 := Lib.hid h1
          have H2 := Lib.hid h2
          have H3 := Lib.hid h3
          clear hneg hci h1 h2 h3
          cases ht : tokenF nm.data.toList with
          | false =>
            have HN := Lib.hid (parseF_none_of hlt (by rw [HK.out, HF.out, if_neg]; rintro ⟨q, _⟩; rw [ht] at q; cases q))
            have HT := Lib.hid ht
            clear ht
            go_wp2_with fail
            refine (cut_named _ hssz HC.out H1.out H2.out).mono ?_
            rintro e w1 ⟨m, rfl, rfl⟩
            go_wp2_with fail
            refine (trim_named _ hx2 H3.out).mono ?_
            rintro e w2 ⟨rfl, hb2⟩
            replace hb2 := (below_drewN hb m).trans (hb2.mono (below_drewN hb m).size)
            go_wp2_with fail
            refine (token_any _ _ hx1).mono ?_
            rintro e w3 ⟨rfl, rfl⟩
            rw [HT.out]
            go_wp2
            go_ret2
            exact ⟨hb2, .inr (.inl ⟨by omega, HN.out, rfl⟩)⟩
          | true =>
            have HT := Lib.hid ht
            clear ht
            cases hv : valueF vl.data.toList with
            | false =>
              have HN := Lib.hid (parseF_none_of hlt (by rw [HK.out, HF.out, if_neg]; rintro ⟨_, q⟩; rw [hv] at q; cases q))
              have HV := Lib.hid hv
              clear hv
              go_wp2_with fail
              refine (cut_named _ hssz HC.out H1.out H2.out).mono ?_
              rintro e w1 ⟨m, rfl, rfl⟩
              go_wp2_with fail
              refine (trim_named _ hx2 H3.out).mono ?_
              rintro e w2 ⟨rfl, hb2⟩
              replace hb2 := (below_drewN hb m).trans (hb2.mono (below_drewN hb m).size)
              go_wp2_with fail
              refine (token_any _ _ hx1).mono ?_
              rintro e w3 ⟨rfl, rfl⟩
              rw [HT.out]
              go_wp2_with fail
              refine (value_any _ _ hx3).mono ?_
              rintro e w3 ⟨rfl, hb3⟩
              rw [HV.out]
              replace hb3 := hb2.trans (hb3.mono hb2.size)
              go_wp2
              go_ret2
              exact ⟨hb3, .inr (.inl ⟨by omega, HN.out, rfl⟩)⟩
            | true =>
              have HG := Lib.hid (parseF_take hlt HP.out (by rw [HK.out, HF.out, if_pos ⟨HT.out, hv⟩]))
              have HV := Lib.hid hv
              clear hv
              go_wp2_with fail
              refine (cut_named _ hssz HC.out H1.out H2.out).mono ?_
              rintro e w1 ⟨m, rfl, rfl⟩
              go_wp2_with fail
              refine (trim_named _ hx2 H3.out).mono ?_
              rintro e w2 ⟨rfl, hb2⟩
              have hown2 := ownsRow_below (w := wr.drewN m) hown hb2
              replace hb2 := (below_drewN hb m).trans (hb2.mono (below_drewN hb m).size)
              go_wp2_with fail
              refine (token_any _ _ hx1).mono ?_
              rintro e w3 ⟨rfl, rfl⟩
              rw [HT.out]
              go_wp2_with fail
              refine (value_any _ _ hx3).mono ?_
              rintro e w3 ⟨rfl, hb3⟩
              rw [HV.out]
              have hown3 := ownsRow_below hown2 hb3
              replace hb3 := hb2.trans (hb3.mono hb2.size)
              have hsz := hb3.size
              clear hown hown2
              go_wp2_with (at_builtin; refine wpList_append_own _ rfl _ _ 56 rfl w.heap.size 69 i0 (.agg #[.string ⟨#[]⟩, .string ⟨#[]⟩]) 2 32 Tryd.underlying56 hi hz0 hz1 hz2 rfl (by decide) _ _ _ rfl (hown3.alloc _) ⟨w3.heap.size, 0, none⟩ 1 1 [.string nm, .string vl] rfl rfl ?c1U ?c2U ?c3U ?c4U ?c5U ?_)
              case c1U =>
                intro j u hj
                match j, hj with
                | 0, hj => simp at hj; subst hj; simp [Addr.add]
                | 1, hj => simp at hj; subst hj; simp [Addr.add]
              case c2U => intro u hu; simp at hu; rcases hu with rfl | rfl <;> rfl
              case c3U => unfold maxLen; omega
              case c4U => omega
              case c5U => simp; omega
              intro v' w4 hown' hgrow _
              have hb4 : Below w.heap.size w w4 := (hb3.alloc hsz _).grown hgrow (by simp; omega) (fun k hk => (hown3.lt k hk).1)
              clear hgrow hown3
              go_wp2
              go_roundw
              case rel =>
                refine ⟨k + 1, fs ++ [(nm, vl)], by omega, by go_num, HG, by simp [hfl], ?_, hb4⟩
                rw [fieldCells_snoc]; simpa [hfl] using hown'
              case measure => simp [intOf]; omega
      · have hkn : k = ls.length := by omega
        have HE := Lib.hid (show parseF ls = some fs from by have := HP.out; rwa [hkn, List.take_of_length_le (Nat.le_refl _)] at this)
        go_wp2
        go_ret2
        exact ⟨hb, .inr (.inr ⟨by omega, fs, _, HE.out, rfl, hown⟩)⟩
end Go.Proofs.YtkfnebpooohflaaDoor.HeadS