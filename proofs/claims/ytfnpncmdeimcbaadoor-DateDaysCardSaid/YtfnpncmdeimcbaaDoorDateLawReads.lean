/-
  The reference's Parse of any text; DateReads.
-/
import Derived.Test.YtfnpncmdeimcbaaDoorDateKnown
import Derived.Test.YtfnpncmdeimcbaaDoorDateRefP
import Derived.Test.YtfnpncmdeimcbaaDoorDateRefO
import Derived.Test.YtfnpncmdeimcbaaDoorDateRefL
import Derived.Test.YtfnpncmdeimcbaaDoorDateRefB
namespace Go.Proofs.YtfnpncmdeimcbaaDoor
open Go.RowKit DateMath

theorem not_long {l : Bs} (h : l.length < 30) : ∀ w : Nat, w ≤ 6 → ¬ ∃ r : Bs, l = dayL.getD w [] ++ 44 :: 32 :: r ∧ r.length = 22 := by
  rintro w hw ⟨r, h1, h2⟩
  have := (split_to h1 h2).1
  have := day_len w hw
  omega
theorem refParse_anyD (s : ByteArray) (w : World) (hs : s.size ≤ 140737488351232) : Calls Tryd.prog 12 #[.string s] w (PairPost (readF s.data.toList) w) := by
  have hll : s.data.toList.length = s.size := by simp
  by_cases a : s.size = 29
  · by_cases b : sepP s.data.toList
    · exact refParse_plain s w b
    · exact refParse_bad29 s w a (ref_none _ b (fun h => by have := h.1; omega) (not_long (by omega))) b
  by_cases c : s.size = 24
  · by_cases b : sepO s.data.toList
    · exact refParse_old s w b
    · exact refParse_bad24 s w c (ref_none _ (fun h => by have := h.1; omega) b (not_long (by omega))) b
  exact refParse_rest s w hs a c
theorem refParseD_at {w : World} (s : ByteArray) (hs : s.size ≤ 140737488351232) (x : World) (hx : Below w.heap.size w x) : Calls Tryd.prog 12 #[.string s] x fun e w' => e = .returned (.tuple #[.int .i64 (readF s.data.toList).1, .int .i64 (readF s.data.toList).2]) ∧ Below w.heap.size w w' := by
  have c := refParse_anyD s x hs
  unfold PairPost at c
  exact c.mono fun e w' ⟨he, hb⟩ => ⟨he, hx.trans (hb.mono hx.size)⟩
set_option maxRecDepth 100000 in
set_option maxHeartbeats 8000000 in
theorem readsD_any (s : ByteArray) (w : World) (h1 : TabP w) (h2 : TabS w) (hs : s.size ≤ 140737488351232) : Calls Tryd.prog 4 #[.string s] w (YesD w) := by
  have CK := Lib.hid (knownD_any w h1 h2)
  have cp := parseD_at h1 h2 s hs
  have cr := fun x hx => refParseD_at (w := w) s hs x hx
  obtain ⟨a, ha⟩ : ∃ a, (readF s.data.toList).1 = a := ⟨_, rfl⟩
  obtain ⟨b, hb⟩ : ∃ b, (readF s.data.toList).2 = b := ⟨_, rfl⟩
  rw [ha, hb] at cp cr
  have CP := Lib.hid cp
  have CR := Lib.hid cr
  have ea : (a == a) = true := beq_self_eq_true _
  have eb : (b == b) = true := beq_self_eq_true _
  clear cp cr ha hb h1 h2
  unfold YesD
  by_cases hbig : 200 < s.size
  · have i1 : (200 : Int) < (s.size : Int) := by omega
    go_enter Tryd.func4, Tryd.ntmps4
    go_wp2_with fail
    refine CK.out.mono ?_
    rintro e w1 ⟨rfl, hb1⟩
    have HB1 := Lib.hid hb1
    clear hb1
    go_wp2
    go_ret
    exact ⟨rfl, HB1.out⟩
  · have i1 : ¬ (200 : Int) < (s.size : Int) := by omega
    go_enter Tryd.func4, Tryd.ntmps4
    go_wp2_with fail
    refine CK.out.mono ?_
    rintro e w1 ⟨rfl, hb1⟩
    have HB1 := Lib.hid hb1
    clear hb1
    go_wp2_with fail
    refine (CP.out w1 HB1.out).mono ?_
    rintro e w2 ⟨rfl, hb2⟩
    have HB2 := Lib.hid hb2
    clear hb2
    go_wp2_with fail
    refine (CR.out w2 HB2.out).mono ?_
    rintro e w3 ⟨rfl, hb3⟩
    have HB3 := Lib.hid hb3
    clear hb3
    go_wp2
    go_ret
    exact ⟨rfl, HB3.out⟩
end Go.Proofs.YtfnpncmdeimcbaaDoor
