/-
  CodeCuts.
-/
import Derived.Test.YtekdkaiammebnaaDoorCodeNums
import Derived.Test.YtekdkaiammebnaaDoorCodeTexts
import Derived.Test.YtekdkaiammebnaaDoorCodeCutsMath
namespace Go.Proofs.YtekdkaiammebnaaDoor
open Go.RowKit CodeMath CrcMath

/-- The slice that starts at a holds slices that read as the lists ls. -/
def RowsAt (w : World) (a : Option Addr) (ls : List (List UInt8)) : Prop :=
  ∀ k (h : k < ls.length), ∃ b off ak ck, a = some ⟨b, off, none⟩ ∧ w.cell? ⟨b, off + k, none⟩ = some (.slice ak ls[k].length ck) ∧ BytesAt w ak ls[k] ∧ (ak = none → ck = 0)
theorem cell_lt {w : World} {b o : Nat} {v : Value} (h : w.cell? ⟨b, o, none⟩ = some v) : b < w.heap.size := by
  rcases Nat.lt_or_ge b w.heap.size with h' | h'
  · exact h'
  · simp [World.cell?, Array.getElem?_eq_none h'] at h
theorem BytesAt.stay {F : Nat → Prop} {w w' : World} {a : Option Addr} {l : List UInt8} (h : BytesAt w a l) (hs : Spares F w w') (hn : ∀ b, b < w.heap.size → ¬ F b) : BytesAt w' a l := by
  intro k hk
  obtain ⟨b, off, rfl, hc⟩ := h k hk
  exact ⟨b, off, rfl, (hs.cell (p := ⟨b, off + k, none⟩) (cell_lt hc) (hn b (cell_lt hc))).trans hc⟩
/-- From the start: where only new blocks, and those of F, which are new, turned. -/
theorem BytesAt.since {F : Nat → Prop} {w0 w w' : World} {a : Option Addr} {l : List UInt8} (h0 : BytesAt w0 a l) (h1 : Spares nowhere w0 w) (hs : Spares F w w') (hn : ∀ b, b < w0.heap.size → ¬ F b) : BytesAt w' a l := by
  have h2 : Spares F w0 w' := (h1.mono (fun _ h => by cases h)).trans hs
  exact h0.stay h2 hn

theorem place_any (k : Int) (n : Nat) (w : World) (h0 : 0 < n) (hn : n ≤ 140737488355328) (hk : -9223372036854775808 ≤ k ∧ k ≤ 9223372036854775807) :
    Calls Tryd.prog 30 #[.int .i64 k, .int .i64 n] w fun e w' => (∃ m : Nat, m < n ∧ e = .returned (.int .i64 m)) ∧ w = w' := by
  have hr1 : k.tmod n < n := Int.tmod_lt_of_pos k (by omega)
  have hr2 : -(n : Int) < k.tmod n := by
    have := Int.tmod_lt_of_pos (-k) (show (0 : Int) < n by omega)
    rw [Int.neg_tmod] at this
    omega
  have q0 : ¬ (n : Int) = 0 := by omega
  obtain ⟨r, hr⟩ : ∃ r, k.tmod n = r := ⟨_, rfl⟩
  rw [hr] at hr1 hr2
  obtain ⟨hk1, hk2⟩ := hk
  by_cases hneg : r < 0
  · go_enter Tryd.func30, Tryd.ntmps30
    go_wp2
    go_ret
    exact ⟨⟨(r + n).toNat, by omega, by rw [Int.toNat_of_nonneg (by omega)]; rfl⟩, rfl⟩
  · go_enter Tryd.func30, Tryd.ntmps30
    go_wp2
    go_ret
    exact ⟨⟨r.toNat, by omega, by rw [Int.toNat_of_nonneg (by omega)]; rfl⟩, rfl⟩

theorem intInfo : (Tryd.prog.info? 3).map (fun i => (i.zero, i.size, i.bytes)) = some (some (.int .i64 0), 1, 8) := by kernel_rfl
def intCells (es : List Nat) : List Value := es.map fun (n : Nat) => Value.int .i64 (n : Int)
def OwnInts (w : World) (v : Value) (es : List Nat) : Prop := w.ownsRow 0 3 1 v es.length (intCells es)
theorem ownInts_nil (w : World) : OwnInts w (.slice none 0 0) [] := World.ownsRow_nil w 0 _ 1

theorem intCells_snoc (es : List Nat) (n : Nat) : intCells (es ++ [n]) = intCells es ++ [.int .i64 (n : Int)] := by simp [intCells]
def endsF (ls : List (List UInt8)) (k : Nat) : List Nat := (List.range k).map fun j => endF ls (j + 1)
theorem endsF_succ (ls : List (List UInt8)) (k : Nat) : endsF ls (k + 1) = endsF ls k ++ [endF ls (k + 1)] := by
  unfold endsF; rw [List.range_succ, List.map_append]; rfl
theorem endsF_len (ls : List (List UInt8)) (k : Nat) : (endsF ls k).length = k := by simp [endsF]
theorem intCell_new (w : World) (n : Int) : (w.alloc (.cells #[.int .i64 n] 3)).cell? ⟨w.heap.size, 0, none⟩ = some (.int .i64 n) := (Lib.cell_of_heap (heap_alloc_new w _) 0).trans rfl

/-- Behind k texts written. -/
structure Wrote (w0 : World) (p : Nat) (ls : List (List UInt8)) (k : Nat) (v : Value) (F : Nat → Prop) (wr : World) : Prop where
  writer : IsW F p (textsF (ls.take k)) wr
  ends : OwnInts wr v (endsF ls k)
  since : Spares nowhere w0 wr
  fresh : ∀ g, F g → w0.heap.size ≤ g
  apart : ∀ g, v.ownBlock = some g → w0.heap.size ≤ g ∧ ¬ F g
  small : ∀ j, j < k → ∀ h : j < ls.length, ls[j].length ≤ 200

set_option maxRecDepth 100000 in
set_option maxHeartbeats 4000000 in
theorem cuts_any (ls : List (List UInt8)) (a : Option Addr) (cap : Nat) (at_ : Int) (w : World) (hT : Steps w) (hin : RowsAt w a ls) (hmax : ls.length ≤ maxLen) (hwide : ∀ j (h : j < ls.length), ls[j].length ≤ maxLen) (hk : -9223372036854775808 ≤ at_ ∧ at_ ≤ 9223372036854775807) :
    Calls Tryd.prog 7 #[.slice a ls.length cap, .int .i64 at_] w (Knows w) := by
  unfold maxLen at hmax
  have HT := Lib.hid hT
  have HIN := Lib.hid hin
  have HWD := Lib.hid hwide
  have HK := Lib.hid hk
  clear hT hin hwide hk
  by_cases h0 : ls.length = 0
  · have t1 : ((ls.length : Int) == 0) = true := by rw [h0]; rfl
    clear h0
    go_enter Tryd.func7, Tryd.ntmps7
    go_wp2_with fail
    refine (known_any _ HT.out).mono ?_
    rintro e w1 ⟨rfl, hs1⟩
    go_wp2
    go_ret
    exact ⟨rfl, hs1⟩
  have t1 : ((ls.length : Int) == 0) = false := by simpa using h0
  by_cases h10 : (10 : Int) < (ls.length : Int)
  · clear h0
    go_enter Tryd.func7, Tryd.ntmps7
    go_wp2_with fail
    refine (known_any _ HT.out).mono ?_
    rintro e w1 ⟨rfl, hs1⟩
    go_wp2
    go_ret
    exact ⟨rfl, hs1⟩
  have t2 : decide ((10 : Int) < (ls.length : Int)) = false := by simpa using h10
  have hn10 : ls.length ≤ 10 := by omega
  obtain ⟨n, hn⟩ : ∃ n, ls.length = n := ⟨_, rfl⟩
  have HN := Lib.hid hn
  rw [hn] at t1 t2 hn10 hmax ⊢
  have hnpos : 0 < n := by omega
  clear h0 h10 hn
  obtain ⟨i1, hi1, hiz, his, hib⟩ := info_parts intInfo
  go_enter Tryd.func7, Tryd.ntmps7
  go_wp2_with fail
  refine (known_any _ HT.out).mono ?_
  rintro e w1 ⟨rfl, hs1⟩
  have HS1 := Lib.hid hs1
  clear hs1
  go_wp2_with fail
  refine (newWriter_any _).mono ?_
  rintro e w2 ⟨rfl, _, hw2, hs2⟩
  have HW2 := Lib.hid hw2
  have HS2 := Lib.hid hs2
  clear hw2 hs2
  go_wp2
  go_loopw [6, 7] (fun ev' i wr => ∃ (k : Nat) (F : Nat → Prop) (ev : Value), k ≤ n ∧ i = .int .i64 k ∧ ev = ev' ∧ Hid (Wrote w1 w1.heap.size ls k ev F wr)) (fun _ i _ => n - (intOf i).toNat)
  case atStart =>
    refine ⟨0, fun k => k = w1.heap.size, _, by omega, rfl, rfl, Lib.hid ⟨?_, ?_, HS2.out, (fun g hg => by omega), (fun g hg => by cases hg), (fun j hj => absurd hj (Nat.not_lt_zero _))⟩⟩
    · simpa [textsF] using HW2.out
    · exact ownInts_nil _
  case round =>
    obtain ⟨k, F, ev, hk, rfl, rfl, HR⟩ := hrel
    by_cases hlt : k < n
    · have hlt' : k < ls.length := by rw [HN.out]; exact hlt
      obtain ⟨b, off, ak, ck, rfl, hc, hat, hnil⟩ := HIN.out k hlt'
      have x0 := (HR.out.since.cell (p := ⟨b, off + k, none⟩) (Nat.lt_of_lt_of_le (cell_lt hc) HS1.out.size) (fun h => h)).trans ((HS1.out.cell (p := ⟨b, off + k, none⟩) (cell_lt hc) (fun h => h)).trans hc)
      have HAT := Lib.hid hat
      have HNIL := Lib.hid hnil
      have hw := HWD.out k hlt'
      unfold maxLen at hw
      clear hc hat hnil
      have HT1 := Lib.hid (textsF_take hlt')
      obtain ⟨x, hx⟩ : ∃ x, ls[k] = x := ⟨_, rfl⟩
      rw [hx] at x0 hw HAT HT1
      have HX : Hid (ls[k]? = some x) := Lib.hid (by rw [← hx]; exact List.getElem?_eq_getElem _)
      clear hx
      by_cases h200 : (200 : Int) < (x.length : Int)
      · go_wp2
        go_ret
        exact ⟨rfl, HS1.out.trans HR.out.since⟩
      · have u2 : decide ((200 : Int) < (x.length : Int)) = false := by simpa using h200
        have hx200 : x.length ≤ 200 := by omega
        clear h200 hw
        have hdl : (textsF (ls.take k)).length ≤ 2100 := by
          have hb : ∀ j, j ≤ k → (textsF (ls.take j)).length ≤ 210 * j := by
            intro j
            induction j with
            | zero => intro _; simp [textsF]
            | succ j ih =>
              intro hj
              have hj' : j < ls.length := by omega
              rw [textsF_take hj', List.length_append]
              have h1 := textF_len ls[j]
              have h2 := HR.out.small j (by omega) hj'
              have h3 := ih (by omega)
              omega
          have := hb k (Nat.le_refl _)
          omega
        obtain ⟨d, hd⟩ : ∃ d, textsF (ls.take k) = d := ⟨_, rfl⟩
        have HWR := Lib.hid HR.out.writer
        rw [hd] at hdl HWR HT1
        clear hd
        go_wp2_with fail
        refine (wText_any F w1.heap.size d x ak ck wr HWR.out ((HAT.out.since HS1.out HR.out.since (fun b hb h => h))) HNIL.out (fun hp b' o' e hF => by
          obtain ⟨b2, o2, e2, hlt2⟩ := HAT.out.lt hp
          rw [e] at e2
          injection e2 with e2
          injection e2 with e2 _ _
          have := HR.out.fresh b' hF
          have := HS1.out.size
          omega) (by omega) (by omega)).mono ?_
        rintro e w3 ⟨rfl, F3, hw3, hm3⟩
        rw [← HT1.out] at hw3
        have HW3 := Lib.hid hw3
        have HM3 := Lib.hid hm3
        have hl3 : (textsF (ls.take (k + 1))).length ≤ 140737488355328 := by
          rw [HT1.out, List.length_append]
          have := textF_len x
          omega
        have HV3 := Lib.hid (hm3.1.own HR.out.ends (fun g hg => (HR.out.apart g hg).2))
        clear hw3 hm3
        go_wp2_with fail
        refine (wBytes_any F3 w1.heap.size (textsF (ls.take (k + 1))) w3 HW3.out hl3).mono ?_
        rintro e w4 ⟨a4, c4, rfl, ho4, hs4, hf4⟩
        rw [show (textsF (ls.take (k + 1))).length = endF ls (k + 1) from rfl] at hl3 ⊢
        have HS4 := Lib.hid hs4
        obtain ⟨en, hen⟩ : ∃ en, endF ls (k + 1) = en := ⟨_, rfl⟩
        have HEN := Lib.hid hen
        rw [hen] at hl3 ⊢
        have HV4 := Lib.hid (((hs4.alloc (.cells #[.int .i64 (en : Int)] 3)).own HV3.out (fun g _ h => h)))
        clear ho4 hs4 hf4 hen
        go_wp2_with (at_builtin; refine wpList_append_fresh rfl _ _ 55 rfl 3 i1 (.int .i64 0) 1 8 Tryd.underlying55 hi1 hiz his hib rfl (by decide) _ _ _ rfl HV4.out ⟨w4.heap.size, 0, none⟩ 1 1 [.int .i64 (en : Int)] rfl rfl ?c1 (by simp [Value.oneCell']) ?c2 ?c3 ?_)
        case c1 =>
          intro j u hj
          cases j with
          | zero => simp at hj; subst hj; exact intCell_new w4 en
          | succ j => simp at hj
        case c2 => rw [endsF_len]; unfold maxLen; omega
        case c3 => rw [endsF_len]; omega
        intro v' w5 hv5 hg5 hf5
        have HR' : Hid (Wrote w1 w1.heap.size ls (k + 1) v' F3 w5) := Lib.hid (by
          have hs34 : Spares nowhere w3 (w4.alloc (.cells #[.int .i64 (en : Int)] 3)) := HS4.out.alloc _
          have hap : ∀ g, ev.ownBlock = some g → w1.heap.size ≤ g ∧ ¬ F3 g := by
            intro g hg
            refine ⟨(HR.out.apart g hg).1, fun h3 => (HM3.out.2 g h3).elim (HR.out.apart g hg).2 (fun hge => ?_)⟩
            have := (World.ownsRow.lt HR.out.ends g hg).2
            omega
          have hs5 : Spares (fun g => ev.ownBlock = some g) (w4.alloc (.cells #[.int .i64 (en : Int)] 3)) w5 := (Spares.refl _ _).grown hg5 (fun g hg => .inl hg)
          refine ⟨?_, ?_, ?_, ?_, ?_, ?_⟩
          · exact ((HW3.out.spares hs34 (fun _ _ h => h)).spares hs5 (fun g hF hg => (hap g hg).2 hF))
          · unfold OwnInts
            rw [endsF_succ, intCells_snoc, List.length_append, HEN.out]
            exact hv5
          · exact ((HR.out.since.trans' HM3.out.1 (fun g hg => .inr (HR.out.fresh g hg))).trans' hs34 (fun _ h => by cases h)).trans' hs5 (fun g hg => .inr (hap g hg).1)
          · intro g hg
            exact (HM3.out.2 g hg).elim (HR.out.fresh g) (fun h => Nat.le_trans HR.out.since.size h)
          · intro g hg
            rcases hf5 g hg with h | h
            · exact hap g h
            · have h34 := hs34.size
              have hsz := HM3.out.1.size
              have h1s := HR.out.since.size
              have h4s : (w4.alloc (.cells #[.int .i64 (en : Int)] 3)).heap.size = w4.heap.size + 1 := by simp
              refine ⟨by omega, fun h3 => ?_⟩
              have := HW3.out.2.1 g h3
              omega
          · intro j hj hj'
            rcases Nat.lt_or_ge j k with h | h
            · exact HR.out.small j h hj'
            · obtain rfl : j = k := by omega
              rw [(List.getElem?_eq_some_iff.1 HX.out).2]
              exact hx200)
        clear hv5 hg5 hf5
        go_wp2
        go_roundw
        case rel => exact ⟨k + 1, F3, v', by omega, by go_num, rfl, HR'⟩
        case measure => simp [intOf]; omega
    · obtain rfl : k = n := by omega
      have HTL : Hid (textsF (ls.take k) = textsF ls) := Lib.hid (by rw [List.take_of_length_le (by rw [HN.out]; omega)])
      have hdl : (textsF ls).length ≤ 2100 := by
        have hb : ∀ j, j ≤ k → (textsF (ls.take j)).length ≤ 210 * j := by
          intro j
          induction j with
          | zero => intro _; simp [textsF]
          | succ j ih =>
            intro hj
            have hj' : j < ls.length := by rw [HN.out]; omega
            rw [textsF_take hj', List.length_append]
            have h1 := textF_len ls[j]
            have h2 := HR.out.small j (by omega) hj'
            have h3 := ih (by omega)
            omega
        have := hb k (Nat.le_refl _)
        rw [HTL.out] at this
        omega
      have hdp : 0 < (textsF ls).length := by
        have h0 : 0 < ls.length := by rw [HN.out]; omega
        have e := textsF_drop h0
        rw [List.drop_zero] at e
        rw [e, List.length_append]
        have := textF_pos ls[0]
        omega
      obtain ⟨d, hd⟩ : ∃ d, textsF ls = d := ⟨_, rfl⟩
      have HD := Lib.hid hd
      rw [hd] at hdl hdp HTL
      have HW := Lib.hid HR.out.writer
      rw [HTL.out] at HW
      obtain ⟨D, hDD⟩ : ∃ D, d.length = D := ⟨_, rfl⟩
      have HDD := Lib.hid hDD
      rw [hDD] at hdl hdp
      have HCE : Hid (∀ m, m < D → cutF ls m k = none) := Lib.hid (fun m hm => by rw [← HN.out]; exact cutF_end (by rw [hd, hDD]; exact hm))
      clear hd hDD hlt hk
      go_wp2_with fail
      refine (wBytes_any F w1.heap.size d wr HW.out (by rw [HDD.out]; omega)).mono ?_
      rintro e w4 ⟨a4, c4, rfl, ho4, hs4, hf4⟩
      rw [HDD.out] at ho4 hf4 ⊢
      obtain ⟨g4, rfl, hc4⟩ := ho4.some_of (by rw [HDD.out]; exact hdp)
      rw [HDD.out] at hc4
      have HB4 := Lib.hid ho4.bytes.1
      have HS4 := Lib.hid hs4
      have e1 : ((D : Int) == 0) = false := by simp; omega
      clear ho4 hs4 hf4
      go_wp2_with fail
      refine (place_any at_ D w4 hdp (by omega) HK.out).mono ?_
      rintro e w5 ⟨⟨m, hm, rfl⟩, rfl⟩
      have hmc : m ≤ c4 := by omega
      have c5 := newReader_any (d.take m) (some ⟨g4, 0, none⟩) c4 w4 (bytesAt_take m HB4.out) (fun e => by cases e) (by rw [List.length_take]; omega)
      rw [show (d.take m).length = m by rw [List.length_take, HDD.out]; omega] at c5
      go_wp2_with fail
      refine c5.mono ?_
      clear c5
      rintro e w6 ⟨p6, F6, rfl, hr6, hs6, hf6⟩
      have HR6 : Hid (IsRS F6 p6 (cutF ls m 0) w6) := Lib.hid (by rw [cutF_zero, HD.out]; exact hr6)
      have HP6 : Hid (w4.heap.size ≤ p6) := Lib.hid (hf6 p6 hr6.1)
      have HS6 := Lib.hid (HS4.out.trans hs6)
      have HV6 := Lib.hid (HS6.out.own HR.out.ends (fun _ _ h => h))
      obtain ⟨ge, ce, hev, hgl⟩ : ∃ ge ce, ev = .slice (some ⟨ge, 0, none⟩) k ce ∧ ge < wr.heap.size := by
        rcases HR.out.ends.2 with ⟨_, h⟩ | ⟨g, cap, cur, h1, _, h3, _⟩
        · rw [endsF_len] at h; omega
        · rw [endsF_len] at h1
          exact ⟨g, cap, h1, (Array.getElem?_eq_some_iff.1 h3).1⟩
      have HEC : Hid (∀ j, j < k → w6.cell? ⟨ge, j, none⟩ = some (.int .i64 (endF ls (j + 1) : Nat))) := Lib.hid (by
        intro j hj
        have h := World.ownsRow.cells HV6.out (g := ge) (by rw [hev]; rfl) j (.int .i64 (endF ls (j + 1) : Nat)) (by
          unfold intCells endsF
          rw [List.getElem?_map, List.getElem?_map, List.getElem?_range hj]
          rfl)
        rw [Addr.add_lit] at h
        simpa using h)
      subst hev
      clear hr6 hs6 hf6
      go_wp2
      go_loopw [11] (fun i wx => ∃ j : Nat, j ≤ k ∧ i = .int .i64 j ∧ Hid (IsRS F6 p6 (cutF ls m j) wx) ∧ Hid (Spares (fun b => b = p6) w6 wx)) (fun i _ => k - (intOf i).toNat)
      case atStart => exact ⟨0, by omega, rfl, HR6, Lib.hid (Spares.refl _ _)⟩
      case round =>
        obtain ⟨j, hj, rfl, HRJ, HSJ⟩ := hrel
        have hlen : ∀ s, cutF ls m j = some s → s.length ≤ 140737488355328 := by
          intro s hs
          have := cutF_len hs
          rw [HD.out, HDD.out] at this
          omega
        have HLEN := Lib.hid hlen
        clear hlen
        by_cases hlt : j < k
        · have hlt' : j < ls.length := by rw [HN.out]; exact hlt
          obtain ⟨b, off, ak, ck, rfl, hc, hat, hnil⟩ := HIN.out j hlt'
          have hb1 := cell_lt hc
          have hsz1 := HS1.out.size
          have hsz2 := HR.out.since.size
          have hsz3 := HS4.out.size
          have hp6 := HP6.out
          have hs0 : Spares nowhere w w6 := (HS1.out.trans HR.out.since).trans HS6.out
          have x0 := (HSJ.out.cell (p := ⟨b, off + j, none⟩) (Nat.lt_of_lt_of_le hb1 hs0.size) (fun h => by simp only at h; omega)).trans ((hs0.cell (p := ⟨b, off + j, none⟩) hb1 (fun h => h)).trans hc)
          have HAT : Hid (BytesAt _ ak ls[j]) := Lib.hid (hat.since hs0 HSJ.out (fun b hb e => by omega))
          have hnp : 0 < ls[j].length → ∀ b' o', ak = some ⟨b', o', none⟩ → ¬ b' = p6 := by
            intro hp b' o' e
            obtain ⟨b2, o2, e2, hlt2⟩ := hat.lt hp
            rw [e] at e2
            injection e2 with e2
            injection e2 with e2 _ _
            omega
          have HNP := Lib.hid hnp
          have x1 := (HSJ.out.cell (p := ⟨ge, j, none⟩) (by have := HS6.out.size; simp only; omega) (fun h => by simp only at h; omega)).trans (HEC.out j hlt)
          have hw := HWD.out j hlt'
          unfold maxLen at hw
          have h200 := HR.out.small j hlt hlt'
          have HST := Lib.hid (cutF_step (j := m) hlt' (by omega))
          obtain ⟨x, hx⟩ : ∃ x, ls[j] = x := ⟨_, rfl⟩
          obtain ⟨en, hen⟩ : ∃ en, endF ls (j + 1) = en := ⟨_, rfl⟩
          rw [hx] at x0 hw HAT HST h200 HNP
          rw [hen] at x1 HST
          have hbp : ¬ b = p6 := by omega
          have hgp : ¬ ge = p6 := by omega
          clear hc hat hnil hnp hx hen hb1 hsz1 hsz2 hsz3 hp6 hs0
          by_cases hle : en ≤ m
          · have HST' : Hid (readText (cutF ls m j) = (x, cutF ls m (j + 1))) := Lib.hid (by rw [HST.out, if_pos hle])
            go_wp2_with fail
            refine (rText_any F6 p6 _ _ HRJ.out HLEN.out).mono ?_
            rw [HST'.out]
            rintro e w7 ⟨⟨a7, c7, rfl, hx7, hn7, hf7⟩, hr7, hs7⟩
            have y0 := (hs7.cell (p := ⟨b, off + j, none⟩) (cell_lt x0) hbp).trans x0
            have y1 := (hs7.cell (p := ⟨ge, j, none⟩) (cell_lt x1) hgp).trans x1
            have HAT7 : Hid (BytesAt w7 ak x) := Lib.hid (HAT.out.spares' hs7 HNP.out)
            have HX7 := Lib.hid hx7
            have HR7 := Lib.hid hr7
            have HS7 := Lib.hid (HSJ.out.trans hs7)
            clear hx7 hn7 hf7 hr7 hs7 x0 x1
            go_wp2_with fail
            refine (bytes_any x x a7 ak c7 ck w7 HX7.out HAT7.out).mono ?_
            rintro e w8 ⟨rfl, rfl⟩
            rw [show (x == x) = true by simp]
            go_wp2
            go_roundw
            case rel => exact ⟨j + 1, by omega, by go_num, HR7, HS7⟩
            case measure => simp [intOf]; omega
          · have HST' : Hid (readText (cutF ls m j) = ([], cutF ls m (j + 1))) := Lib.hid (by rw [HST.out, if_neg hle])
            go_wp2_with fail
            refine (rText_any F6 p6 _ _ HRJ.out HLEN.out).mono ?_
            rw [HST'.out]
            rintro e w7 ⟨⟨a7, c7, rfl, hx7, hn7, hf7⟩, hr7, hs7⟩
            have y1 := (hs7.cell (p := ⟨ge, j, none⟩) (cell_lt x1) hgp).trans x1
            have HR7 := Lib.hid hr7
            have HS7 := Lib.hid (HSJ.out.trans hs7)
            clear hx7 hn7 hf7 hr7 hs7 x0 x1
            go_wp2
            go_roundw
            case rel => exact ⟨j + 1, by omega, by go_num, HR7, HS7⟩
            case measure => simp [intOf]; omega
        · obtain rfl : j = k := by omega
          rw [HCE.out m hm] at HRJ HLEN
          have hsF : ∀ wz, Spares (fun b => b = p6) w6 wz → Spares nowhere w wz := fun wz hz =>
            ((HS1.out.trans HR.out.since).trans HS6.out).trans' hz (fun b hb => .inr (by
              have := HS1.out.size
              have := HR.out.since.size
              have := HS4.out.size
              have := HP6.out
              omega))
          have HSF := Lib.hid hsF
          clear hsF
          go_wp2_with fail
          refine (done_any F6 p6 none _ HRJ.out (fun l e => by cases e)).mono ?_
          rw [show doneF none = 20 from rfl]
          rintro e w7 ⟨rfl, rfl⟩
          go_wp2_with fail
          refine (rText_any F6 p6 none _ HRJ.out (fun l e => by cases e)).mono ?_
          rw [show readText none = ([], none) from rfl]
          rintro e w8 ⟨⟨a8, c8, rfl, hx8, hn8, hf8⟩, hr8, hs8⟩
          have HR8 := Lib.hid hr8
          have HS8 := Lib.hid (HSJ.out.trans hs8)
          clear hx8 hn8 hf8 hr8 hs8
          go_wp2_with fail
          refine (rNum_any F6 p6 none _ HR8.out (fun l e => by cases e)).mono ?_
          rw [show readNum none = (0, none) from rfl]
          rintro e w9 ⟨rfl, hr9, hs9⟩
          have HS9 := Lib.hid (HS8.out.trans hs9)
          clear hr9 hs9
          go_wp2
          go_ret
          exact ⟨rfl, HSF.out _ HS9.out⟩
end Go.Proofs.YtekdkaiammebnaaDoor
