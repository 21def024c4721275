/-
  STRINGS AND THEIR BYTES AS NUMBERS.
-/
import Derived.Test.YtbheafpbamkphaaGreatDoorUtfOwn
import Derived.Deep.RegionWith
import Derived.Lib.Strings
namespace Go.Proofs.YtbheafpbamkphaaGreatDoor
open Go.RowKit
open Utf

theorem bs_extract (s : ByteArray) (a b : Nat) : bs (s.extract a b) = ((bs s).drop a).take (b - a) := by
  unfold bs
  rw [Lib.extract_data, List.map_take, List.map_drop]

theorem bs_inj {s t : ByteArray} (h : bs s = bs t) : s = t := by
  unfold bs at h
  have : s.data.toList = t.data.toList := by
    refine (List.map_inj_right ?_).1 h
    intro a b hab
    exact UInt8.toNat_inj.1 (by omega)
  apply ByteArray.ext
  exact Array.toList_inj.1 this

theorem bs_strOfNums {l : List Int} (hl : ∀ c ∈ l, IsByte c) : bs (strOfNums l) = l := by
  unfold bs
  rw [strOfNums_data, List.map_map]
  conv => rhs; rw [← List.map_id l]
  apply List.map_congr_left
  intro c hc
  have := hl c hc
  unfold IsByte at this
  simp
  omega

theorem toList_eq (s : ByteArray) : s.toList = s.data.toList := ByteArray.toList_eq s

/-- Two strings are compared as their bytes. -/
theorem str_beq (s t : ByteArray) : (s.toList == t.toList) = decide (bs s = bs t) := by
  rw [Bool.eq_iff_iff, beq_iff_eq, decide_eq_true_eq]
  constructor
  · intro h
    unfold bs
    rw [← toList_eq, ← toList_eq, h]
  · intro h; rw [bs_inj h]

theorem bs_getD (s : ByteArray) (k : Nat) (h : k < s.size) : (bs s).getD k 0 = (s[k].toNat : Int) := by
  rw [List.getD_eq_getElem?_getD, bs_get s k h]; rfl

theorem below_drewN (B : Nat) (w : World) (n : Nat) : Below B w (w.drewN n) := ⟨rfl, rfl, rfl, Nat.le_refl _, fun _ _ => rfl⟩

end Go.Proofs.YtbheafpbamkphaaGreatDoor
