/-
  THE LAW UtfTexts: THE WALK.
-/
import Derived.Test.YthfflepgiikbjaaUtfOnce
namespace Go.Proofs.Ythfflepgiikbjaa
open Go.RowKit
open Utf

theorem WantAt.below {W W' : World} {v : Value} {n0 n1 : Nat} {rs : List RuneAt} (h : WantAt W v n0 rs) (hB : Below n0 W W') (hn : n0 ≤ n1) : WantAt W' v n1 rs := by
  obtain ⟨a, cap, rfl, h | ⟨g, rfl, hg, hc⟩⟩ := h
  · exact ⟨a, cap, rfl, .inl h⟩
  · exact ⟨_, cap, rfl, .inr ⟨g, rfl, by omega, fun i hi => ⟨(hB.cell (p := ⟨g, i * 2, none⟩) hg).trans (hc i hi).1, (hB.cell (p := ⟨g, i * 2 + 1, none⟩) hg).trans (hc i hi).2⟩⟩⟩

theorem once_any (s : ByteArray) (hs : s.size ≤ 9000) (v : Value) (most : Int) (w : World) (hv : WantAt w v w.heap.size (allR (bs s))) :
    Calls Try.prog 18 #[.string s, v, .int .i64 most] w fun e W' => e = .returned (.bool true) ∧ Below w.heap.size w W' := callsIn_wide.1 (once_in 3 (Nat.le_refl _) s hs v most w hv)

theorem below_chain {w a b : World} (h : Below w.heap.size w a) (k : Below a.heap.size a b) : Below w.heap.size w b := h.trans (k.mono h.size)

set_option maxRecDepth 100000 in
set_option maxHeartbeats 2000000 in
theorem utfTexts_any (s : ByteArray) (leave : Int) (w : World) (hm : s.size ≤ 9223372036854775807) :
    Calls Try.prog 4 #[.string s, .int .i64 leave] w fun e w' => e = .returned (.bool true) ∧ Below w.heap.size w w' := by
  by_cases hs : 9000 < s.size
  · go_enter Try.func4, Try.ntmps4
    go_wp2_with (go_at_call 8; refine (known_any _).mono ?_; rintro e w' ⟨rfl, hB⟩)
    go_ret
    exact ⟨rfl, hB⟩
  · have hs9 : s.size ≤ 9000 := by omega
    clear hs hm
    have HR := Lib.hid (fun w => refrunes_any s w hs9)
    obtain ⟨b, hb⟩ : ∃ b : Bool, ((endR (allR (bs s)) : Int) == (s.size : Int)) = b := ⟨_, rfl⟩
    have HV : Hid (∀ w, Calls Try.prog 16 #[.string s] w fun e W' => e = .returned (.bool b) ∧ Below w.heap.size w W') := by
      intro w
      refine (valid_any s w (by omega)).mono ?_
      rintro e W' ⟨rfl, h⟩
      exact ⟨by unfold valid; rw [bs_length, hb], h⟩
    have HL := Lib.hid (fun w => len_any s w (by omega))
    cases b
    all_goals
      go_enter Try.func4, Try.ntmps4
      go_wp2_with fail
      refine (HR.out _).mono ?_
      rintro e w1 ⟨v, rfl, hown, hB1⟩
      have hW := wantAt_of hown
      have HW := Lib.hid hW
      obtain ⟨a, cap, rfl, _⟩ := hW
      clear hown
      go_wp2_with (go_at_call 16; refine (HV.out _).mono ?_; rintro e w2 ⟨rfl, hB2⟩)
      refine (HL.out _).mono ?_
      rintro e w3 ⟨rfl, hB3⟩
      have hB13 := below_chain hB2 hB3
      go_wp2_with fail
      refine (once_any s hs9 _ _ _ (HW.out.below hB13 hB13.size)).mono ?_
      rintro e w4 ⟨rfl, hB4⟩
      have hB14 := below_chain hB13 hB4
      go_wp2_with fail
      refine (once_any s hs9 _ _ _ (HW.out.below hB14 hB14.size)).mono ?_
      rintro e w5 ⟨rfl, hB5⟩
      have HB := Lib.hid (below_chain hB1 (below_chain hB14 hB5))
      clear hB1 hB2 hB3 hB4 hB5 hB13 hB14
      go_wp2_with (go_at_call 8; refine (known_any _).mono ?_; rintro e w6 ⟨rfl, hB6⟩)
      go_ret
      exact ⟨rfl, below_chain HB.out hB6⟩

theorem utfTexts_walk (s : ByteArray) (leave : Int) (w : World) (hm : s.size ≤ maxLen) (_ : (Lit.int .i64 leave).wf = true) :
    Calls Try.prog 4 #[.string s, .int .i64 leave] w fun e w' => e = .returned (.bool true) ∧ Below w.heap.size w w' :=
  utfTexts_any s leave w (by unfold maxLen at hm; omega)
end Go.Proofs.Ythfflepgiikbjaa
