/-
  WHAT THE PROOF STANDS ON, a part of it: LexRest.
-/
import Derived.Test.YtachijkjcbajmaaGreatDoorQ11
import Derived.Test.YtachijkjcbajmaaGreatDoorQ2
import Derived.WalkSpells
import Derived.WalkLawsBesides
import Derived.Laws.ResultCell
import Derived.Laws.Rows
/-
  CONTRACTS OF wellFormed AND (*reader).rest; WHAT A TAKER ANSWERS.
-/

namespace Go.Proofs.YtachijkjcbajmaaGreatDoor
open Go.RowKit
open Utf Term Lex
set_option linter.unusedVariables false

theorem lex_drewN (B : Nat) (w : World) (n : Nat) : Below B w (w.drewN n) := ⟨rfl, rfl, rfl, Nat.le_refl _, fun _ _ => rfl⟩
theorem bs_from (s : ByteArray) (a : Nat) : bs (s.extract a s.size) = (bs s).drop a := by
  rw [bs_extract]
  exact List.take_of_length_le (by rw [List.length_drop, bs_length]; exact Nat.le_refl _)

/-- How many bytes there are before the first one that is not well-formed. -/
def wfL (l : List Int) : Nat := endR (allR l)
theorem wfL_split {rs b : List Int} (h : AllMay rs) (hb : (dec b).2 = 0) (hl : (encs rs ++ b).length ≤ 1000000000000) : wfL (encs rs ++ b) = (encs rs).length := by
  unfold wfL
  rw [endR_map, allR_val hl, rest_of 0 h hb, endP_posR rs 0 h]
  split
  · rename_i e; rw [e]; rfl
  · simp

set_option maxRecDepth 100000 in
set_option maxHeartbeats 1000000 in
theorem wellFormed_any (s : ByteArray) (hs : s.size ≤ 1000000000000) (w : World) :
    Calls Tryz.prog 57 #[.string s] w fun e w' => e = .returned (.int .i64 (wfL (bs s))) ∧ w = w' := by
  obtain ⟨rs, b, hm, hl, hb⟩ := split_text _ (bs s) (Nat.le_refl _)
  have hlen : (encs rs).length + b.length = s.size := by rw [← bs_length, hl, List.length_append]
  have HW : Hid (wfL (bs s) = (encs rs).length) := Lib.hid (by
    rw [hl]
    exact wfL_split hm hb (by rw [List.length_append]; omega))
  have HS : Hid (∀ ra r rb, rs = ra ++ r :: rb → dec ((bs s).drop (encs ra).length) = (r, rsize r) ∧ (encs (ra ++ [r])).length = (encs ra).length + rsize r ∧ (encs ra).length + rsize r ≤ s.size ∧ 1 ≤ rsize r ∧ rsize r ≤ 4) := Lib.hid (by
    intro ra r rb e
    have hmr : May r := hm r (by rw [e]; simp)
    have h1 := rsize_enc hmr
    have h2 := rsize_pos.2 hmr
    have h3 := rsize_le r
    have e2 : bs s = encs ra ++ (enc r ++ (encs rb ++ b)) := by rw [hl, e, encs_append, encs_cons]; simp
    refine ⟨?_, ?_, ?_, by omega, h3⟩
    · rw [e2, List.drop_left]
      exact dec_enc hmr _
    · rw [encs_append, encs_cons, List.length_append, List.length_append, ← h1]
      simp [encs]
    · have := congrArg List.length e2
      simp only [List.length_append, bs_length] at this
      omega)
  have HE : Hid (dec ((bs s).drop (encs rs).length) = (0, 0)) := Lib.hid (by
    rw [hl, List.drop_left]
    exact dec_zero hb)
  rw [HW.out]
  clear hl hb hm
  obtain ⟨R, hR⟩ : ∃ R, R = (encs rs).length := ⟨_, rfl⟩
  rw [← hR]
  have HR := Lib.hid hR
  clear hR HW
  go_enter Tryz.func57, Tryz.ntmps57
  go_wp2
  go_loop [3] (fun i => ∃ ra rb, rs = ra ++ rb ∧ i = .int .i64 ((encs ra).length : Nat)) (fun i => s.size - (intOf i).toNat)
  case atStart => exact ⟨[], rs, rfl, rfl⟩
  case round =>
    obtain ⟨ra, rb, e, rfl⟩ := hrel
    cases rb with
    | nil =>
      rw [List.append_nil] at e
      subst e
      have HL := Lib.hid hlen
      have hle : (encs rs).length ≤ s.size := by omega
      clear hlen
      generalize (encs rs).length = E at *
      by_cases hlt : E < s.size
      · have C := get_any (s.extract E s.size) w (by simp; omega)
        unfold gotten at C
        rw [bs_from, HE.out] at C
        have HC := Lib.hid C
        clear C
        go_wp2_with (go_at_call 77; refine HC.out.mono ?_; rintro e w' ⟨rfl, rfl⟩)
        go_ret
        exact ⟨ret_int (by rw [HR.out]), rfl⟩
      · have d0 : decide (E < s.size) = false := by simp; omega
        go_wp2
        go_ret
        exact ⟨ret_int (by rw [HR.out]), rfl⟩
    | cons r rb =>
      obtain ⟨hd, h2, h3, h4, h5⟩ := HS.out ra r rb e
      have C := get_any (s.extract (encs ra).length s.size) w (by simp; omega)
      unfold gotten at C
      rw [bs_from, hd] at C
      have HN : Hid (rs = (ra ++ [r]) ++ rb) := Lib.hid (by rw [e]; simp)
      have H2 := Lib.hid h2
      clear hd h2 e hlen HR
      generalize (encs ra).length = E at *
      have h6 : E < s.size := by omega
      have hg : getErr (rsize r) = 0 := by unfold getErr; rw [if_neg (by omega)]
      simp only [hg] at C
      have HC := Lib.hid C
      clear C hg
      generalize rsize r = z at *
      go_wp2_with (go_at_call 77; refine HC.out.mono ?_; rintro e w' ⟨rfl, rfl⟩)
      go_round
      case rel => exact ⟨ra ++ [r], rb, HN.out, by rw [H2.out]; go_num⟩
      case measure => simp [intOf]; omega

set_option maxRecDepth 100000 in
theorem lexRest_any (rp : Nat) (s : ByteArray) (a : Nat) (ha : a ≤ s.size) (hs : s.size ≤ 1000000000000) (w : World) (h0 : w.cell? ⟨rp, 0, none⟩ = some (.string s)) (h1 : w.cell? ⟨rp, 1, none⟩ = some (.int .i64 a)) :
    Calls Tryz.prog 98 #[.pointer (some ⟨rp, 0, none⟩)] w fun e w' => e = .returned (.string (s.extract a s.size)) ∧ Below w.heap.size w w' := by
  have i0 : (0 : Int) ≤ (a : Int) := by omega
  have i1 : (a : Int) ≤ (s.size : Int) := by omega
  go_enter Tryz.func98, Tryz.ntmps98
  go_wp2
  go_quiet (fail)
  go_wp2
  go_ret
  exact ⟨rfl, lex_drewN _ _ _⟩

theorem prefix_take (s p : ByteArray) : (bs p).isPrefixOf (bs s) = (decide (p.size ≤ s.size) && ((s.extract 0 p.size).toList == p.toList)) := by
  rw [str_beq, bs_extract, Bool.eq_iff_iff, List.isPrefixOf_iff_prefix, Bool.and_eq_true, decide_eq_true_eq, decide_eq_true_eq]
  simp only [List.drop_zero, Nat.sub_zero]
  constructor
  · intro h
    have h1 := h.length_le
    rw [bs_length, bs_length] at h1
    refine ⟨h1, ?_⟩
    have := List.prefix_iff_eq_take.1 h
    rw [bs_length] at this
    exact this.symm
  · rintro ⟨_, h⟩
    rw [← h]
    exact List.take_prefix _ _
theorem hasPrefixIn_any (s p : ByteArray) (w : World) : Calls Tryz.prog 119 #[.string s, .string p] w fun e w' => e = .returned (.bool ((bs p).isPrefixOf (bs s))) ∧ w = w' := by
  have HP := Lib.hid (prefix_take s p)
  by_cases h : p.size ≤ s.size
  · have d : decide (p.size ≤ s.size) = true := decide_eq_true h
    go_enter Tryz.func119, Tryz.ntmps119
    go_wp2
    go_ret
    exact ⟨ret_bool (by rw [HP.out, d, Bool.true_and]), rfl⟩
  · have d : decide (p.size ≤ s.size) = false := decide_eq_false h
    go_enter Tryz.func119, Tryz.ntmps119
    go_wp2
    go_ret
    exact ⟨ret_bool (by rw [HP.out, d, Bool.false_and]), rfl⟩
theorem hasPrefix_any (s p : ByteArray) (w : World) : Calls Tryz.prog 97 #[.string s, .string p] w fun e w' => e = .returned (.bool ((bs p).isPrefixOf (bs s))) ∧ w = w' := by
  go_enter Tryz.func97, Tryz.ntmps97
  go_wp2_with (go_at_call 119; refine (hasPrefixIn_any _ _ _).mono ?_; rintro e w' ⟨rfl, rfl⟩)
  go_ret
  exact ⟨rfl, rfl⟩

/-- A symbol's cells, and its value. -/
abbrev symC (k : Int) (t : ByteArray) (tk : Int) (tt te : ByteArray) (p : Int) : Array Value := #[.int .i64 k, .string t, .int .i64 tk, .string tt, .string te, .int .i64 p]
def symA (x : Sym) : Array Value := symC x.kind (strOfNums x.text) x.tk (strOfNums x.tt) (strOfNums x.te) x.place
def symV (x : Sym) : Value := .agg (symA x)
/-- What a taker answers. -/
def tookE : Took → Ending
  | .no => .returned (.tuple #[.agg (symC 0 ⟨#[]⟩ 0 ⟨#[]⟩ ⟨#[]⟩ 0), .int .i64 0])
  | .bad => .panicked [{ v := .iface 32 (.int .i64 4), recovered := false }]
  | .got x n => .returned (.tuple #[symV x, .int .i64 (n : Nat)])
end Go.Proofs.YtachijkjcbajmaaGreatDoor
