/-
  * goes no further than its segment, and ** as far as it likes: ambrylaw24.GlobSegments returns true, whatever it is given.
-/
import Derived.Test.YtalehempjdjehaaGlobKnown
import Derived.Test.YtalehempjdjehaaGlobSegMath
namespace Go.Proofs.Ytalehempjdjehaa
open Go.RowKit GlobMath

theorem add_blk (a : Addr) (n : Nat) : (a.add n).block = a.block := by unfold Addr.add; split <;> rfl
/-- A slice's cells, if it has any. -/
def CellsAre (w : World) (A : Option Addr) (n : Nat) (V : Nat → Value) : Prop := 0 < n → ∃ ad : Addr, A = some ad ∧ ad.block < w.heap.size ∧ ∀ j, j < n → w.cell? (ad.add j) = some (V j)

def okSeg (t : Tok) : Prop := okTok t ∧ t.2.length ≤ 3
theorem seg_append (a b : ByteArray) : (a ++ b).data.toList = a.data.toList ++ b.data.toList := by
  rw [ByteArray.data_append]; simp
theorem pOf_len (l : List Tok) (h : ∀ t ∈ l, okSeg t) : (pOf l).length ≤ 4 * l.length := by
  induction l with
  | nil => simp [pOf]
  | cons t l ih =>
    have h1 := ih (fun u hu => h u (List.mem_cons_of_mem _ hu))
    have h2 := (h t List.mem_cons_self).2
    have e : pOf (t :: l) = 47 :: ((if t.1 then [42] else t.2) ++ pOf l) := by simp [pOf]
    rw [e]
    cases t.1 <;> simp <;> omega
theorem qOf_len (l : List Tok) (h : ∀ t ∈ l, okSeg t) : (qOf l).length ≤ 4 * l.length := by
  induction l with
  | nil => simp [qOf]
  | cons t l ih =>
    have h1 := ih (fun u hu => h u (List.mem_cons_of_mem _ hu))
    have h2 := (h t List.mem_cons_self).2
    have e : qOf (t :: l) = 47 :: ((if t.1 then [42, 42] else t.2) ++ qOf l) := by simp [qOf]
    rw [e]
    cases t.1 <;> simp <;> omega
theorem sOf_len (l : List Tok) (h : ∀ t ∈ l, okSeg t) : (sOf l).length ≤ 4 * l.length := by
  induction l with
  | nil => simp [sOf]
  | cons t l ih =>
    have h1 := ih (fun u hu => h u (List.mem_cons_of_mem _ hu))
    have h2 := (h t List.mem_cons_self).2
    have e : sOf (t :: l) = 47 :: (t.2 ++ sOf l) := by simp [sOf]
    rw [e]
    simp; omega
theorem seg_snoc {l : List Tok} (h : ∀ t ∈ l, okSeg t) {t : Tok} (ht : okSeg t) : ∀ u ∈ l ++ [t], okSeg u := by
  intro u hu
  rcases List.mem_append.1 hu with h1 | h1
  · exact h u h1
  · simp at h1; subst h1; exact ht
theorem seg_a (b : Bool) : okSeg (b, [97]) := ⟨by intro c hc; simp at hc; subst hc; decide, by simp⟩
theorem seg_bc (b : Bool) : okSeg (b, [98, 99]) := ⟨by intro c hc; simp at hc; rcases hc with rfl | rfl <;> decide, by simp⟩
theorem seg_none (b : Bool) : okSeg (b, []) := ⟨by intro c hc; simp at hc, by simp⟩
theorem seg_de (b : Bool) : okSeg (b, [100, 46, 101]) := ⟨by intro c hc; simp at hc; rcases hc with rfl | rfl | rfl <;> decide, by simp⟩

/-- What the loop has put together. -/
def Built (toks : List Tok) (sb pb qb : ByteArray) : Prop := (∀ t ∈ toks, okSeg t) ∧ sb.data.toList = sOf toks ∧ pb.data.toList = pOf toks ∧ qb.data.toList = qOf toks
theorem Built.nil : Built [] ByteArray.empty ByteArray.empty ByteArray.empty := ⟨by simp, rfl, rfl, rfl⟩
theorem Built.plain {toks : List Tok} {sb pb qb : ByteArray} (h : Built toks sb pb qb) (x a : ByteArray) (ha : a.data.toList = [47]) (hx : okSeg (false, x.data.toList)) :
    Built (toks ++ [(false, x.data.toList)]) (sb ++ a ++ x) (pb ++ a ++ x) (qb ++ a ++ x) := by
  obtain ⟨h0, h1, h2, h3⟩ := h
  refine ⟨seg_snoc h0 hx, ?_, ?_, ?_⟩
  · rw [seg_append, seg_append, h1, ha]; simp [sOf]
  · rw [seg_append, seg_append, h2, ha]; simp [pOf]
  · rw [seg_append, seg_append, h3, ha]; simp [qOf]
theorem Built.star {toks : List Tok} {sb pb qb : ByteArray} (h : Built toks sb pb qb) (x a b c : ByteArray) (ha : a.data.toList = [47]) (hb : b.data.toList = [47, 42]) (hc : c.data.toList = [47, 42, 42]) (hx : okSeg (true, x.data.toList)) :
    Built (toks ++ [(true, x.data.toList)]) (sb ++ a ++ x) (pb ++ b) (qb ++ c) := by
  obtain ⟨h0, h1, h2, h3⟩ := h
  refine ⟨seg_snoc h0 hx, ?_, ?_, ?_⟩
  · rw [seg_append, seg_append, h1, ha]; simp [sOf]
  · rw [seg_append, h2, hb]; simp [pOf]
  · rw [seg_append, h3, hc]; simp [qOf]

set_option maxHeartbeats 4000000 in
theorem segments_any (A B : Option Addr) (n m c d : Nat) (z : Nat → Int) (f : Nat → Bool) (w : World) (hz : ∀ j, j < n → 0 ≤ z j ∧ z j ≤ 255) (hA : CellsAre w A n (fun j => .int .u8 (z j))) (hB : CellsAre w B m (fun j => .bool (f j)))
    (hn : n ≤ 9223372036854775807) (hm : m ≤ 9223372036854775807) :
    Calls Try.prog 5 #[.slice A n c, .slice B m d] w fun e w' => e = .returned (.bool true) ∧ Below w.heap.size w w' := by
  have HA := Lib.hid hA
  have HB := Lib.hid hB
  have HZ := Lib.hid hz
  clear hA hB hz
  by_cases h1 : (12 : Int) < n
  · go_enter Try.func5, Try.ntmps5
    go_wp2_with (go_at_call 8; refine (known_any _).mono ?_; rintro e w1 ⟨rfl, hb1⟩)
    go_ret
    exact ⟨rfl, hb1⟩
  · have h1' : (n : Int) ≤ 12 := by omega
    have g1 : decide ((12 : Int) < n) = false := decide_eq_false h1
    clear h1
    by_cases h2 : m < n
    · go_enter Try.func5, Try.ntmps5
      go_wp2_with (go_at_call 8; refine (known_any _).mono ?_; rintro e w1 ⟨rfl, hb1⟩)
      go_ret
      exact ⟨rfl, hb1⟩
    · have h2' : n ≤ m := by omega
      have g2 : decide (m < n) = false := decide_eq_false h2
      clear h2
      go_enter Try.func5, Try.ntmps5
      go_wp2_with (go_at_call 8; refine (known_any _).mono ?_; rintro e w1 ⟨rfl, hb1⟩)
      go_loopw [5, 6, 7, 8] (fun s p q i wr => ∃ (toks : List Tok) (sb pb qb : ByteArray), toks.length ≤ n ∧ i = .int .i64 toks.length ∧ s = .string sb ∧ p = .string pb ∧ q = .string qb ∧ Built toks sb pb qb ∧ Below w.heap.size w wr)
        (fun _ _ _ i _ => n - (intOf i).toNat)
      case atStart => exact ⟨[], _, _, _, by simp, rfl, rfl, rfl, rfl, Built.nil, hb1⟩
      case round =>
        obtain ⟨toks, sb, pb, qb, hk, rfl, rfl, rfl, rfl, hbuilt, hbr⟩ := hrel
        have HBU := Lib.hid hbuilt
        clear hb1 hbuilt
        have hos := hbr.size
        by_cases hlt : toks.length < n
        · obtain ⟨ad, rfl, had, hac⟩ := HA.out (by omega)
          obtain ⟨bd, rfl, hbd, hbc⟩ := HB.out (by omega)
          have x0 : wr.cell? (ad.add toks.length) = some (.int .u8 (z toks.length)) := (hbr.cell (p := ad.add toks.length) (by rw [add_blk]; exact had)).trans (hac _ hlt)
          have x1 : wr.cell? (bd.add toks.length) = some (.bool (f toks.length)) := (hbr.cell (p := bd.add toks.length) (by rw [add_blk]; exact hbd)).trans (hbc _ (by omega))
          obtain ⟨z0, z1⟩ := HZ.out _ hlt
          generalize z toks.length = zk at x0 z0 z1
          have lt0 : (ad.add toks.length).block < wr.heap.size := by rw [add_blk]; omega
          have lt1 : (bd.add toks.length).block < wr.heap.size := by rw [add_blk]; omega
          have y0 : ∀ o, (wr.alloc o).cell? (ad.add toks.length) = some (.int .u8 zk) := fun o => (World.cell?_alloc_lt wr o _ lt0).trans x0
          have y1 : ∀ o, (wr.alloc o).cell? (bd.add toks.length) = some (.bool (f toks.length)) := fun o => (World.cell?_alloc_lt wr o _ lt1).trans x1
          clear hac hbc x0 x1 lt0 lt1
          generalize f toks.length = fb at y1
          obtain ⟨b0, b1, b2, b3⟩ := HBU.out
          have l2 := pOf_len toks b0
          have l3 := qOf_len toks b0
          have l1 := sOf_len toks b0
          rw [← b1, size_list] at l1
          rw [← b2, size_list] at l2
          rw [← b3, size_list] at l3
          clear b0 b1 b2 b3
          cases fb with
          | true =>
            rcases (show zk % 4 = 0 ∨ zk % 4 = 1 ∨ zk % 4 = 2 ∨ zk % 4 = 3 from by omega) with h | h | h | h
            · go_wp2
              go_roundw
              case rel => exact ⟨toks ++ [(true, [97])], _, _, _, by simp; omega, by simp, rfl, rfl, rfl, HBU.out.star ⟨#[97]⟩ ⟨#[47]⟩ ⟨#[47, 42]⟩ ⟨#[47, 42, 42]⟩ rfl rfl rfl (seg_a true), hbr.alloc hos _⟩
              case measure => simp [intOf]; omega
            · go_wp2
              go_roundw
              case rel => exact ⟨toks ++ [(true, [98, 99])], _, _, _, by simp; omega, by simp, rfl, rfl, rfl, HBU.out.star ⟨#[98, 99]⟩ ⟨#[47]⟩ ⟨#[47, 42]⟩ ⟨#[47, 42, 42]⟩ rfl rfl rfl (seg_bc true), hbr.alloc hos _⟩
              case measure => simp [intOf]; omega
            · go_wp2
              go_roundw
              case rel => exact ⟨toks ++ [(true, [])], _, _, _, by simp; omega, by simp, rfl, rfl, rfl, HBU.out.star ⟨#[]⟩ ⟨#[47]⟩ ⟨#[47, 42]⟩ ⟨#[47, 42, 42]⟩ rfl rfl rfl (seg_none true), hbr.alloc hos _⟩
              case measure => simp [intOf]; omega
            · go_wp2
              go_roundw
              case rel => exact ⟨toks ++ [(true, [100, 46, 101])], _, _, _, by simp; omega, by simp, rfl, rfl, rfl, HBU.out.star ⟨#[100, 46, 101]⟩ ⟨#[47]⟩ ⟨#[47, 42]⟩ ⟨#[47, 42, 42]⟩ rfl rfl rfl (seg_de true), hbr.alloc hos _⟩
              case measure => simp [intOf]; omega
          | false =>
            rcases (show zk % 4 = 0 ∨ zk % 4 = 1 ∨ zk % 4 = 2 ∨ zk % 4 = 3 from by omega) with h | h | h | h
            · go_wp2
              go_roundw
              case rel => exact ⟨toks ++ [(false, [97])], _, _, _, by simp; omega, by simp, rfl, rfl, rfl, HBU.out.plain ⟨#[97]⟩ ⟨#[47]⟩ rfl (seg_a false), hbr.alloc hos _⟩
              case measure => simp [intOf]; omega
            · go_wp2
              go_roundw
              case rel => exact ⟨toks ++ [(false, [98, 99])], _, _, _, by simp; omega, by simp, rfl, rfl, rfl, HBU.out.plain ⟨#[98, 99]⟩ ⟨#[47]⟩ rfl (seg_bc false), hbr.alloc hos _⟩
              case measure => simp [intOf]; omega
            · go_wp2
              go_roundw
              case rel => exact ⟨toks ++ [(false, [])], _, _, _, by simp; omega, by simp, rfl, rfl, rfl, HBU.out.plain ⟨#[]⟩ ⟨#[47]⟩ rfl (seg_none false), hbr.alloc hos _⟩
              case measure => simp [intOf]; omega
            · go_wp2
              go_roundw
              case rel => exact ⟨toks ++ [(false, [100, 46, 101])], _, _, _, by simp; omega, by simp, rfl, rfl, rfl, HBU.out.plain ⟨#[100, 46, 101]⟩ ⟨#[47]⟩ rfl (seg_de false), hbr.alloc hos _⟩
              case measure => simp [intOf]; omega
        · have hkn : toks.length = n := by omega
          obtain ⟨b0, b1, b2, b3⟩ := HBU.out
          have l2 := pOf_len toks b0
          have l3 := qOf_len toks b0
          have l1 := sOf_len toks b0
          rw [← b1, size_list] at l1
          rw [← b2, size_list] at l2
          rw [← b3, size_list] at l3
          have okt : ∀ t ∈ toks, okTok t := fun t ht => (b0 t ht).1
          have pp := parts_pOf toks okt
          rw [← b2] at pp
          have hp1 : matchF pb.data.toList sb.data.toList = true := match_yes (by rw [size_list]; omega) pp (by rw [b1]; exact M_p toks okt)
          have pq := parts_qOf [] toks okt
          rw [List.append_nil, parts_nil, ← b3] at pq
          have hq1 : matchF qb.data.toList sb.data.toList = true := match_yes (by rw [size_list]; omega) (by simpa using pq) (by rw [b1]; exact M_q toks)
          have hp2 : matchF pb.data.toList (sb.data.toList ++ [47, 122]) = false := match_no pp (by rw [b1]; exact not_longer toks okt)
          have hp3 : matchF pb.data.toList ([122] ++ sb.data.toList) = false := match_no pp (by rw [b1]; exact not_z toks)
          have pr := parts_qOf [42, 42] toks okt
          rw [show parts [42, 42] = some [(3, 0)] from by decide, ← b3] at pr
          have hq2 : matchF (qb.data.toList ++ [42, 42]) (sb.data.toList ++ [47, 122, 47, 121]) = true := match_yes (by simp; omega) pr (by rw [b1]; exact M_append _ _ _ _ (M_q toks) (M_any _))
          have HP1 := Lib.hid hp1
          have HQ1 := Lib.hid hq1
          have HP2 := Lib.hid hp2
          have HP3 := Lib.hid hp3
          have HQ2 := Lib.hid hq2
          have hz0 : n = 0 → (pb.toList == (sb ++ ({ data := #[47, 122] } : ByteArray)).toList) = false := by
            intro h0
            rw [beq_eq_false_iff_ne, Lib.toList_data, Lib.toList_data, seg_append]
            intro he
            have := congrArg List.length he
            rw [List.length_append, size_list, size_list] at this
            simp at this
            omega
          have HZ0 := Lib.hid hz0
          clear hp1 hq1 hp2 hp3 hq2 pp pq pr b0 b1 b2 b3 okt hz0
          subst hkn
          go_wp2_with fail
          refine (match_at pb sb true _ HP1.out (by omega) (by omega)).mono ?_
          rintro e w2 ⟨rfl, hb2⟩
          replace hb2 := hbr.trans (hb2.mono hbr.size)
          go_wp2_with fail
          refine (match_at qb sb true _ HQ1.out (by omega) (by omega)).mono ?_
          rintro e w3 ⟨rfl, hb3⟩
          replace hb3 := hb2.trans (hb3.mono hb2.size)
          go_wp2_with fail
          refine (match_at pb _ false _ (by rw [seg_append]; exact HP2.out) (by omega) (by rw [ByteArray.size_append]; exact Nat.le_trans (Nat.add_le_add_right l1 _) (by simp [ByteArray.size]; omega))).mono ?_
          rintro e w4 ⟨rfl, hb4⟩
          replace hb4 := hb3.trans (hb4.mono hb3.size)
          by_cases h0 : toks.length = 0
          · have q0 : ((toks.length : Int) == 0) = true := beq_iff_eq.2 (by omega)
            have q1 := HZ0.out h0
            clear h0
            go_wp2_with fail
            refine (match_at pb _ false _ (by rw [seg_append]; exact HP3.out) (by omega) (by rw [ByteArray.size_append]; exact Nat.le_trans (Nat.add_le_add_left l1 _) (by simp [ByteArray.size]; omega))).mono ?_
            rintro e w5 ⟨rfl, hb5⟩
            replace hb5 := hb4.trans (hb5.mono hb4.size)
            go_wp2_with fail
            refine (match_at _ _ true _ (by rw [seg_append, seg_append]; exact HQ2.out) (by rw [ByteArray.size_append]; exact Nat.le_trans (Nat.add_le_add_right l3 _) (by simp [ByteArray.size]; omega)) (by rw [ByteArray.size_append]; exact Nat.le_trans (Nat.add_le_add_right l1 _) (by simp [ByteArray.size]; omega))).mono ?_
            rintro e w6 ⟨rfl, hb6⟩
            replace hb6 := hb5.trans (hb6.mono hb5.size)
            go_wp2
            go_ret
            exact ⟨rfl, hb6⟩
          · have q0 : ((toks.length : Int) == 0) = false := beq_eq_false_iff_ne.2 (by omega)
            clear h0
            go_wp2_with fail
            refine (match_at pb _ false _ (by rw [seg_append]; exact HP3.out) (by omega) (by rw [ByteArray.size_append]; exact Nat.le_trans (Nat.add_le_add_left l1 _) (by simp [ByteArray.size]; omega))).mono ?_
            rintro e w5 ⟨rfl, hb5⟩
            replace hb5 := hb4.trans (hb5.mono hb4.size)
            go_wp2_with fail
            refine (match_at _ _ true _ (by rw [seg_append, seg_append]; exact HQ2.out) (by rw [ByteArray.size_append]; exact Nat.le_trans (Nat.add_le_add_right l3 _) (by simp [ByteArray.size]; omega)) (by rw [ByteArray.size_append]; exact Nat.le_trans (Nat.add_le_add_right l1 _) (by simp [ByteArray.size]; omega))).mono ?_
            rintro e w6 ⟨rfl, hb6⟩
            replace hb6 := hb5.trans (hb6.mono hb5.size)
            go_wp2
            go_ret
            exact ⟨rfl, hb6⟩
end Go.Proofs.Ytalehempjdjehaa
