/-
  WHAT THE PROOF STANDS ON, a part of it: UtfLeaf, UtfMark.
-/
import Derived.Test.YtbcoklbfebmpoaaGreatDoorU1
import Derived.Test.YtbcoklbfebmpoaaGreatDoorProg
import Derived.WalkKit
import Derived.BigQuiet
import Derived.BigGuardPart
import Derived.Deep.QuietTactic
import Derived.Lib.Hide
/-
  CONTRACTS OF THE SMALL FUNCTIONS OF LAYER 1: size, mark, first, and of the law's num, of the reference's May.
-/

namespace Go.Proofs.YtbcoklbfebmpoaaGreatDoor
open Go.RowKit
open Utf
namespace Utf

/-- A string's bytes, as numbers. -/
def bs (s : ByteArray) : List Int := s.data.toList.map fun c => (c.toNat : Int)

theorem bs_length (s : ByteArray) : (bs s).length = s.size := by simp [bs]
theorem bs_byte (s : ByteArray) : ∀ c ∈ bs s, IsByte c := by
  intro c hc
  simp only [bs, List.mem_map] at hc
  obtain ⟨u, _, rfl⟩ := hc
  have := u.toNat_lt
  unfold IsByte; omega
theorem bs_get (s : ByteArray) (k : Nat) (h : k < s.size) : (bs s)[k]? = some (s[k].toNat : Int) := by
  simp only [bs, List.getElem?_map]
  rw [List.getElem?_eq_getElem (by simpa using h)]
  rfl
theorem bs_head (s : ByteArray) (h : 0 < s.size) : bs s = (s[0].toNat : Int) :: (bs s).tail := by
  have h1 := bs_get s 0 h
  cases e : bs s with
  | nil => rw [e] at h1; simp at h1
  | cons c l => rw [e] at h1; simp at h1; simp [h1]
theorem byte_bd (c : UInt8) : 0 ≤ (c.toNat : Int) ∧ (c.toNat : Int) ≤ 255 := by have := c.toNat_lt; omega
theorem ret_int {a b : Int} {k : IntKind} (h : a = b) : Ending.returned (.int k a) = .returned (.int k b) := by rw [h]
theorem ret_bool {a b : Bool} (h : a = b) : Ending.returned (.bool a) = .returned (.bool b) := by rw [h]
theorem ret2 {a b a' b' : Int} {k : IntKind} (h : a = a') (h' : b = b') : Ending.returned (.tuple #[.int k a, .int k b]) = .returned (.tuple #[.int k a', .int k b']) := by rw [h, h']

theorem nonempty {s : ByteArray} (h : 0 < s.size) : s.toList.isEmpty = false := by
  rw [← decide_eq_emptyBytes, decide_eq_false_iff_not]
  rintro rfl
  exact absurd h (by decide)

def markOf (n : Int) : Int := if n = 2 then 192 else if n = 3 then 224 else if n = 4 then 240 else 0
end Utf

theorem size_any (r : Int) (w : World) : Calls Tryz.prog 133 #[.int .i64 r] w fun e w' => e = .returned (.int .i64 (rsize r : Nat)) ∧ w = w' := by
  go_enter Tryz.func133, Tryz.ntmps133
  go_wp2
  all_goals
    go_ret
    refine ⟨ret_int ?_, rfl⟩
    have hr := rsize_eq (r := r)
    have hl := rsize_le r
    omega

theorem first_nil (w : World) : Calls Tryz.prog 132 #[.string ByteArray.empty] w fun e w' => e = .returned (.tuple #[.int .i64 0, .int .i64 0]) ∧ w = w' := by
  have h0 : ByteArray.empty.toList.isEmpty = true := by rw [← decide_eq_emptyBytes]; simp
  go_enter Tryz.func132, Tryz.ntmps132
  go_wp2
  go_ret2
  exact ⟨rfl, rfl⟩

theorem first_any (s : ByteArray) (w : World) (h0 : 0 < s.size) :
    Calls Tryz.prog 132 #[.string s] w fun e w' => e = .returned (.tuple #[.int .i64 (lead s[0].toNat).1, .int .i64 ((lead s[0].toNat).2 : Nat)]) ∧ w = w' := by
  have hne : s.toList.isEmpty = false := nonempty h0
  go_enter Tryz.func132, Tryz.ntmps132
  go_wp2
  all_goals
    have hw : wrap64 (s[0].toNat : Int) = s[0].toNat := IntWalk.wrap64_in _ (by have := byte_bd s[0]; omega)
    simp only [hw] at *
    go_ret2
    refine ⟨?_, rfl⟩
    apply ret2
    all_goals
      unfold lead
      first
        | rw [if_pos (by omega)]
        | rw [if_neg (by omega), if_pos (by omega)]
        | rw [if_neg (by omega), if_neg (by omega), if_pos (by omega)]
        | rw [if_neg (by omega), if_neg (by omega), if_neg (by omega), if_pos (by omega)]
        | rw [if_neg (by omega), if_neg (by omega), if_neg (by omega), if_neg (by omega), if_pos (by omega)]
        | rw [if_neg (by omega), if_neg (by omega), if_neg (by omega), if_neg (by omega), if_neg (by omega)]
      try rfl
end Go.Proofs.YtbcoklbfebmpoaaGreatDoor

/-
  THE CONTRACT OF utf.mark.
-/

namespace Go.Proofs.YtbcoklbfebmpoaaGreatDoor
open Go.RowKit
open Utf

theorem mark_any (n : Int) (w : World) : Calls Tryz.prog 190 #[.int .i64 n] w fun e w' => e = .returned (.int .u8 (markOf n)) ∧ w = w' := by
  go_enter Tryz.func190, Tryz.ntmps190
  go_wp2
  all_goals
    go_ret
    refine ⟨ret_int ?_, rfl⟩
    simp_all [markOf]

end Go.Proofs.YtbcoklbfebmpoaaGreatDoor

