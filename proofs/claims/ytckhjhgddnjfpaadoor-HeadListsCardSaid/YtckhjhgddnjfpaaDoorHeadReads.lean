/-
  HeadReads.
-/
import Derived.Test.YtckhjhgddnjfpaaDoorHeadRefParse
import Derived.Test.YtckhjhgddnjfpaaDoorHeadWorld
import Derived.Laws.AppendOwnNone
import Derived.SliceStrings
import Derived.ChangeOld
namespace Go.Proofs.YtckhjhgddnjfpaaDoor
open Go.RowKit HeadMath

def LitL (ls : List ByteArray) (w : World) (e : Ending) (w' : World) : Prop := ∃ b : Bool, e = .returned (.bool b) ∧ w' = w ∧ (b = true → ls.length ≤ 120 ∧ ∀ s ∈ ls, s.size ≤ 300)
set_option maxHeartbeats 1000000 in
theorem lawLines_any (ls : List ByteArray) (a : Option Addr) (c n : Nat) (w : World) (hat : StrsIn w.heap.size w a ls) (hn : n = ls.length) (hm : n ≤ 9223372036854775807) (hs : ∀ s ∈ ls, s.size ≤ maxLen) :
    Calls Tryd.prog 12 #[.slice a n c] w (LitL ls w) := by
  unfold maxLen at hs
  have HA := Lib.hid hat
  have HN := Lib.hid hn
  have HS := Lib.hid hs
  clear hat hn hs
  by_cases hbig : 120 < n
  · have i1 : (120 : Int) < (n : Int) := by omega
    go_enter Tryd.func12, Tryd.ntmps12
    go_wp2
    go_ret
    exact ⟨false, rfl, rfl, fun h => by cases h⟩
  have i1 : ¬ (120 : Int) < (n : Int) := by omega
  go_enter Tryd.func12, Tryd.ntmps12
  go_wp2
  go_loopw [3] (fun i wr => ∃ k : Nat, k ≤ n ∧ i = .int .i64 k ∧ wr = w ∧ Hid (∀ j (h : j < ls.length), j < k → (ls[j]).size ≤ 300)) (fun i _ => n - (intOf i).toNat)
  case atStart => exact ⟨0, by omega, rfl, rfl, Lib.hid (fun j _ h => by omega)⟩
  case round =>
    obtain ⟨k, hk, rfl, rfl, HSM⟩ := hrel
    by_cases hlt : k < n
    · have hk2 : k < ls.length := by have := HN.out; omega
      obtain ⟨b, off, rfl, _, hc⟩ := HA.out k hk2
      have hsz := HS.out _ (List.getElem_mem hk2)
      obtain ⟨s, hs⟩ : ∃ s, ls[k] = s := ⟨_, rfl⟩
      rw [hs] at hc hsz
      have HSS := Lib.hid hs
      have j1 : (k : Int) < (n : Int) := by omega
      clear hs
      by_cases h1 : 300 < s.size
      · have j3 : (300 : Int) < (s.size : Int) := by omega
        go_wp2
        go_ret
        exact ⟨false, rfl, rfl, fun h => by cases h⟩
      have j3 : ¬ (300 : Int) < (s.size : Int) := by omega
      go_wp2
      go_roundw
      case rel =>
        refine ⟨k + 1, by omega, by go_num, trivial, Lib.hid (fun j h hj => ?_)⟩
        by_cases e : j = k
        · subst e; rw [HSS.out]; omega
        · exact HSM.out j h (by omega)
      case measure => simp [intOf]; omega
    · obtain rfl : k = n := by omega
      go_wp2
      go_ret
      exact ⟨true, rfl, rfl, fun _ => ⟨by have := HN.out; omega, fun s hs => by
        obtain ⟨j, hj, rfl⟩ := List.getElem_of_mem hs
        exact HSM.out j hj (by have := HN.out; omega)⟩⟩

def parseR (ls : List ByteArray) : Fs × Int := if 100 < ls.length then ([], 91) else match parseF ls with
  | none => ([], 90)
  | some fs => (fs, 0)
def ParseS (w : World) (r : Fs × Int) (e : Ending) (w' : World) : Prop := ∃ a c, e = .returned (.tuple #[.slice a r.1.length c, .int .i64 r.2]) ∧ FieldsIn w'.heap.size w' a r.1 ∧ Below w.heap.size w w'
theorem ParsePost.slice {w w' : World} {ls : List ByteArray} {e : Ending} (h : ParsePost w ls e w') : ParseS w (parseR ls) e w' := by
  obtain ⟨hb, ⟨h, rfl⟩ | ⟨h, h1, rfl⟩ | ⟨h, fs, v, h1, rfl, hown⟩⟩ := h
  · unfold parseR
    rw [if_pos h]
    exact ⟨none, 0, rfl, fun j h => absurd h (by simp), hb⟩
  · unfold parseR
    rw [if_neg (by omega), h1]
    exact ⟨none, 0, rfl, fun j h => absurd h (by simp), hb⟩
  · unfold parseR
    rw [if_neg (by omega), h1]
    rcases hown.2 with ⟨rfl, h2⟩ | ⟨g, c, cur, rfl, _⟩
    · have h0 : fs = [] := List.eq_nil_of_length_eq_zero h2
      subst h0
      exact ⟨none, 0, rfl, fun j h => absurd h (by simp), hb⟩
    · exact ⟨_, _, rfl, fieldsIn_own hown, hb⟩
theorem parseR_len (ls : List ByteArray) : (parseR ls).1.length ≤ 100 := by
  unfold parseR
  split
  · simp
  · cases h : parseF ls with
    | none => simp
    | some fs => have := parseF_len h; simp only; omega
theorem strCells_one (l : List ByteArray) : ∀ u ∈ strCells l, u.oneCell' = true := by
  intro u hu
  obtain ⟨x, _, rfl⟩ := List.mem_map.1 hu
  rfl
theorem strCells_len (l : List ByteArray) : (strCells l).length = l.length := by simp [strCells]
theorem strCells_app (a b : List ByteArray) : strCells (a ++ b) = strCells a ++ strCells b := by simp [strCells]
def OwnStrs (B : Nat) (w : World) (v : Value) (l : List ByteArray) : Prop := w.ownsRow B 9 1 v l.length (strCells l)
theorem StrsIn.cells {B : Nat} {w : World} {b off : Nat} {l : List ByteArray} (h : StrsIn B w (some ⟨b, off, none⟩) l) : ∀ j u, (strCells l)[j]? = some u → w.cell? ((⟨b, off, none⟩ : Addr).add j) = some u := by
  intro j u hj
  unfold strCells at hj
  rw [List.getElem?_map] at hj
  obtain ⟨x, hx, rfl⟩ := Option.map_eq_some_iff.1 hj
  obtain ⟨hlt, rfl⟩ := List.getElem?_eq_some_iff.1 hx
  obtain ⟨b', off', he, _, hc⟩ := h j hlt
  injection he with he
  injection he with h1 h2 h3
  subst h1; subst h2
  rw [Go.Addr.add_lit]
  exact hc
/-- append of a slice of texts to a row of the call's own. -/
theorem wpList_append_strs {w : World} {ops : Array Oper} {rest : List Oper} {o : Oper} {a : Act} {Q : Exit → Act → World → Prop} (hgd : o.guard = none) (s x : Operand)
    (ho : o.op = .call { callee := .builtin .append, args := #[s, x], argTypes := #[22, 22] })
    (B B' : Nat) (v : Value) (d : List ByteArray) (hs : a.eval s = v) (hown : OwnStrs B w v d) (hB : B ≤ w.heap.size)
    (ad : Option Addr) (c n : Nat) (l : List ByteArray) (hx : a.eval x = .slice ad n c) (hn : n = l.length) (hat : StrsIn B' w ad l) (hnil : ad = none → c = 0)
    (hlen : d.length + l.length ≤ 1000000000000)
    (hK : ∀ v' w', OwnStrs B w' v' (d ++ l) → w.grownBy w' v.ownBlock → wpList Tryd.prog ops Q rest (a.put o.dst v') w') : wpList Tryd.prog ops Q (o :: rest) a w := by
  obtain ⟨i0, hi, hz0, hz1, hz2⟩ := info_parts strInfo
  subst hn
  cases ad with
  | none =>
    obtain rfl := hnil rfl
    have hl : l = [] := by
      cases l with
      | nil => rfl
      | cons y l => obtain ⟨_, _, e, _⟩ := hat 0 (by simp); cases e
    subst hl
    refine wpList_append_own_none hgd s x 22 ho B 9 i0 1 Tryd.underlying22 hi v d.length (strCells d) hs hown hx ?_
    exact hK v w (by rw [List.append_nil]; exact hown) ⟨rfl, rfl, rfl, Nat.le_refl _, fun _ _ _ => rfl⟩
  | some ad =>
    by_cases he : l = []
    · subst he
      refine wpList_append_own w hgd s x 22 ho B 9 i0 (.string ⟨#[]⟩) 1 16 Tryd.underlying22 hi hz0 hz1 hz2 rfl (by decide) v d.length (strCells d) hs hown ad 0 c [] hx rfl (by simp) (by simp) (by unfold maxLen; simp at hlen; omega) (by simp at hlen; omega) hB ?_
      intro v' w' h1 h2 _
      exact hK v' w' (by unfold OwnStrs; simpa using h1) h2
    · obtain ⟨b, off, hab, _⟩ := hat 0 (List.length_pos_iff.2 he)
      injection hab with hab
      subst hab
      refine wpList_append_own w hgd s x 22 ho B 9 i0 (.string ⟨#[]⟩) 1 16 Tryd.underlying22 hi hz0 hz1 hz2 rfl (by decide) v d.length (strCells d) hs hown ⟨b, off, none⟩ l.length c (strCells l) hx (by simp [strCells_len]) hat.cells (strCells_one l) (by unfold maxLen; omega) (by omega) hB ?_
      intro v' w' h1 h2 _
      exact hK v' w' (by unfold OwnStrs; rw [List.length_append, strCells_app]; exact h1) h2
theorem OwnStrs.shape {B : Nat} {w : World} {v : Value} {l : List ByteArray} (h : OwnStrs B w v l) : ∃ a c, v = .slice a l.length c ∧ StrsIn w.heap.size w a l ∧ (a = none → c = 0) := by
  rcases h.2 with ⟨hv, h2⟩ | ⟨g, cap, cur, hv, _⟩
  · have e : l = [] := List.eq_nil_of_length_eq_zero h2
    subst e
    exact ⟨none, 0, hv, fun j h => absurd h (by simp), fun _ => rfl⟩
  · subst hv
    exact ⟨_, _, rfl, strsIn_own h, fun e => by cases e⟩

def ab : ByteArray := ⟨#[97, 58, 32, 98]⟩
theorem small300 {l : List ByteArray} (h : ∀ s ∈ l, s.size ≤ 300) : Small l := fun j hj => by have := h _ (List.getElem_mem hj); omega
set_option maxRecDepth 100000 in
set_option maxHeartbeats 4000000 in
theorem reads_any (ls : List ByteArray) (a : Option Addr) (cap n m : Nat) (w : World) (hin : StrsIn w.heap.size w a ls) (hN : n = ls.length) (hnil : a = none → cap = 0) (hle : n ≤ maxLen) (hsz : ∀ s ∈ ls, s.size ≤ maxLen) (hm : m < 256) :
    Calls Tryd.prog 3 #[.slice a n cap, .int .u8 m] w (SetsPost w) := by
  unfold maxLen at hle
  have HIN := Lib.hid hin
  have HN := Lib.hid hN
  have HNIL := Lib.hid hnil
  have HSZ := Lib.hid hsz
  obtain ⟨q, hq⟩ : ∃ q, m % 8 = q := ⟨_, rfl⟩
  have hq8 : q ≤ 7 := by omega
  have hqi : (m : Int) % 8 = (q : Int) := by omega
  have hm255 : (m : Int) ≤ 255 := by omega
  clear hin hN hnil hsz hq
  go_enter Tryd.func3, Tryd.ntmps3
  go_wp2_with fail
  refine (known_any _).mono ?_
  rintro e w1 ⟨rfl, hb1⟩
  have HIN1 := Lib.hid (HIN.out.below hb1 hb1.size)
  have HB1 := Lib.hid hb1
  clear hb1
  go_wp2_with fail
  refine (lawLines_any ls a cap n w1 HIN1.out HN.out hle HSZ.out).mono ?_
  rintro e w2 ⟨lit, rfl, rfl, hlit⟩
  cases lit with
  | false =>
    clear hlit
    go_wp2
    go_ret
    exact ⟨rfl, HB1.out⟩
  | true =>
  obtain ⟨h120, hl⟩ := hlit rfl
  have HL := Lib.hid hl
  have hn120 : n ≤ 120 := by rw [HN.out]; exact h120
  clear hlit hl h120
  go_wp2_with (at_builtin; refine wpList_append_strs rfl _ _ rfl w.heap.size w2.heap.size (.slice none 0 0) [] rfl (World.ownsRow_nil _ _ _ _) HB1.out.size a cap n ls rfl HN.out HIN1.out HNIL.out ?c1 ?_)
  case c1 => have := HN.out; simp; omega
  intro v3 w3 ho3 hg3
  have HR0 : Hid (OwnStrs w.heap.size w3 v3 (ls ++ List.replicate 0 ab)) := Lib.hid (by simpa using ho3)
  have HB3 := Lib.hid (HB1.out.grown hg3 HB1.out.size (fun k hk => by cases hk))
  clear ho3 hg3 HIN1 HB1
  go_wp2
  go_loopw [5, 6] (fun v i wr => ∃ k : Nat, k ≤ q * 20 ∧ i = .int .i64 k ∧ Hid (OwnStrs w.heap.size wr v (ls ++ List.replicate k ab)) ∧ Hid (Below w.heap.size w wr)) (fun _ i _ => q * 20 - (intOf i).toNat)
  case atStart => exact ⟨0, Nat.zero_le _, rfl, HR0, HB3⟩
  clear HR0 HB3
  case round =>
    obtain ⟨k, hk, rfl, HO, HB⟩ := hrel
    by_cases hlt : k < q * 20
    · have i1 : (k : Int) < (q : Int) * 20 := by omega
      have HO1 := Lib.hid (show OwnStrs w.heap.size (wr.alloc (.cells #[.string ab] 9)) u5 (ls ++ List.replicate k ab) from HO.out.alloc _)
      have HS1 := Lib.hid (strsIn_one wr 9 ab)
      have HB2 := Lib.hid (HB.out.alloc (o := .cells #[.string ab] 9) HB.out.size)
      have hlen : (ls ++ List.replicate k ab).length + [ab].length ≤ 1000000000000 := by have := HN.out; simp; omega
      have HLEN := Lib.hid hlen
      clear hlen
      go_wp2_with (at_builtin; refine wpList_append_strs rfl _ _ rfl w.heap.size (wr.alloc (.cells #[.string ab] 9)).heap.size u5 (ls ++ List.replicate k ab) rfl HO1.out HB2.out.size (some ⟨wr.heap.size, 0, none⟩) 1 1 [ab] rfl rfl HS1.out (fun e => by cases e) HLEN.out ?_)
      intro v4 w4 ho4 hg4
      have HR4 : Hid (OwnStrs w.heap.size w4 v4 (ls ++ List.replicate (k + 1) ab)) := Lib.hid (by
        rw [List.replicate_succ']; simpa using ho4)
      have HB4 := Lib.hid (HB2.out.grown hg4 HB2.out.size (fun g hg => (World.ownsRow.lt HO1.out g hg).1))
      clear ho4 hg4 HO1 HS1 HB2 HO HB
      go_wp2
      go_roundw
      case rel => exact ⟨k + 1, by omega, by go_num, HR4, HB4⟩
      case measure => simp [intOf]; omega
    · obtain rfl : k = q * 20 := by omega
      obtain ⟨ax, cx, rfl, hinx, _⟩ := HO.out.shape
      have hX : ∀ s ∈ ls ++ List.replicate (q * 20) ab, s.size ≤ 300 := fun s hs => by
        rcases List.mem_append.1 hs with h | h
        · exact HL.out s h
        · rw [(List.mem_replicate.1 h).2]; decide
      obtain ⟨X, hXe⟩ : ∃ X, ls ++ List.replicate (q * 20) ab = X := ⟨_, rfl⟩
      obtain ⟨nx, hnx⟩ : ∃ nx, X.length = nx := ⟨_, rfl⟩
      have hnx2 : nx ≤ 260 := by rw [← hnx, ← hXe, List.length_append, List.length_replicate]; have := HN.out; omega
      rw [hXe] at hinx hX ⊢
      have HSX := Lib.hid (small300 hX)
      have HC := Lib.hid (show ∀ wz, StrsIn wz.heap.size wz ax X → Calls Tryd.prog 13 #[.slice ax nx cx] wz (ParseS wz (parseR X)) from fun wz h => by
        rw [← hnx]; exact (parse_some X ax cx wz h HSX.out (by omega)).mono fun _ _ h => h.slice)
      have HCR := Lib.hid (show ∀ wz, StrsIn wz.heap.size wz ax X → Calls Tryd.prog 14 #[.slice ax nx cx] wz (ParseS wz (parseR X)) from fun wz h =>
        (refParse_any X ax cx nx wz h hnx.symm HSX.out (by omega)).mono fun _ _ h => h.slice)
      have HI := Lib.hid hinx
      have hRl := parseR_len X
      obtain ⟨⟨R, z⟩, hr⟩ : ∃ r, parseR X = r := ⟨_, rfl⟩
      rw [hr] at hRl HC HCR
      obtain ⟨nr, hnr⟩ : ∃ nr, R.length = nr := ⟨_, rfl⟩
      have HNR := Lib.hid hnr
      have hRl2 : R.length ≤ 1000 := by simp only at hRl; omega
      have HRL := Lib.hid hRl2
      clear hRl2
      have qz : ((z : Int) == (z : Int)) = true := by simp
      have i1 : ¬ ((q * 20 : Nat) : Int) < (q : Int) * 20 := by omega
      rw [hnx]
      clear hinx hX hXe hnx hr hRl hnr HO
      go_wp2_with fail
      refine (HC.out _ HI.out).mono ?_
      rintro e w4 ⟨a4, c4, rfl, hf4, hb4⟩
      rw [HNR.out]
      have HI4 := Lib.hid (HI.out.below hb4 hb4.size)
      have HF4 := Lib.hid hf4
      have HB4 := Lib.hid (HB.out.trans (hb4.mono HB.out.size))
      clear hf4 hb4 HI HB HC
      go_wp2_with fail
      refine (HCR.out _ HI4.out).mono ?_
      rintro e w5 ⟨a5, c5, rfl, hf5, hb5⟩
      rw [HNR.out]
      have HF4' := Lib.hid (HF4.out.below hb5 hb5.size)
      have HF5 := Lib.hid hf5
      have HB5 := Lib.hid (HB4.out.trans (hb5.mono HB4.out.size))
      clear hf5 hb5 HI4 HB4 HCR HF4
      have HS := Lib.hid (fields_same R a4 a5 c4 c5 w5 HF4'.out HF5.out (by have := HRL.out; omega))
      rw [HNR.out] at HS
      go_wp2_with fail
      refine HS.out.mono ?_
      rintro e w6 ⟨rfl, m6, rfl⟩
      have HB6 := Lib.hid (below_drewN HB5.out m6)
      go_wp2
      go_ret
      exact ⟨rfl, HB6.out⟩
open Go.ChangeShapes Go.WideShapes Go.ChangeAt in
theorem strsIn_open {H : Type} {W : World} {enc : TypeId × Value → H} {d : DataW H} {p : List MemPlace} {fuel : Nat} {a : Option Addr} {len cap : Nat}
    (hf : DataW.trod enc Tryd.prog W 0 (fun _ => true) true fuel 22 (Value.slice a len cap).cells.toList = some (d, p)) :
    ∃ l : List ByteArray, l.length = len ∧ StrsIn W.heap.size W a l ∧ (a = none → cap = 0) ∧ len ≤ maxLen ∧ len ≤ cap ∧ ∀ s ∈ l, s.size ≤ maxLen := by
  rcases open_strings Tryd.underlying22 Tryd.underlying9 (by kernel_rfl) hf with ⟨hcs, _⟩ | ⟨x, l, c, ss, hcs, _, hl, hm, hz, _, hcell, hwz⟩
  · simp [Value.cells] at hcs
    obtain ⟨rfl, rfl, rfl⟩ := hcs
    exact ⟨[], rfl, fun k hk => absurd hk (by simp), fun _ => rfl, Nat.zero_le _, Nat.le_refl _, fun s hs => by cases hs⟩
  · simp [Value.cells] at hcs
    obtain ⟨rfl, rfl, rfl⟩ := hcs
    have hzl : ss.length = cap := by simpa using hz
    refine ⟨ss.take len, by simp; omega, ?_, (fun e => by cases e), by omega, hl, fun s hs => hwz s (List.mem_of_mem_take hs)⟩
    intro k hk
    have hk' : k < ss.length := by simp at hk; omega
    obtain ⟨b, off, spot⟩ := x
    have h0 := hcell 0 (by omega)
    have hspot : spot = none := by simpa [Addr.add] using World.cell?_spot h0
    subst hspot
    have h1 := hcell k hk'
    rw [Go.WideShapes.add_plain] at h1
    refine ⟨b, off, rfl, ?_, ?_⟩
    · rcases Nat.lt_or_ge b W.heap.size with h' | h'
      · exact h'
      · simp [World.cell?, Array.getElem?_eq_none h'] at h1
    · rw [h1, List.getElem_take, List.getD_eq_getElem?_getD, List.getElem?_eq_getElem hk']
      rfl
open Go.WideShapes in
theorem reads_of (ls : List ByteArray) (a : Option Addr) (cap : Nat) (m : Int) (w : World) (hin : StrsIn w.heap.size w a ls) (hnil : a = none → cap = 0) (hle : ls.length ≤ maxLen) (hsz : ∀ s ∈ ls, s.size ≤ maxLen) (hm : (Lit.int .u8 m).wf = true) :
    Calls Tryd.prog 3 #[.slice a ls.length cap, .int .u8 m] w (SetsPost w) := by
  have hb : 0 ≤ m ∧ m ≤ 255 := by have := bounds_u8 hm; omega
  obtain ⟨k, rfl⟩ : ∃ k : Nat, m = k := ⟨m.toNat, by omega⟩
  exact reads_any ls a cap _ k w hin rfl hnil hle hsz (by omega)
end Go.Proofs.YtckhjhgddnjfpaaDoor
