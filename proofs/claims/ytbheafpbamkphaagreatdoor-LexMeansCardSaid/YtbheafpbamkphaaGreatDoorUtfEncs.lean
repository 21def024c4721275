/-
  PLAIN MATHEMATICS: the bytes of runes.
-/
import Derived.Test.YtbheafpbamkphaaGreatDoorUtfMath
namespace Go.Proofs.YtbheafpbamkphaaGreatDoor
namespace Utf
def encs (l : List Int) : List Int := l.flatMap enc
theorem enc_len (r : Int) : (enc r).length ≤ 4 := by
  unfold enc; repeat' split
  all_goals simp
theorem encs_len (l : List Int) : (encs l).length ≤ 4 * l.length := by
  induction l with
  | nil => simp [encs]
  | cons r l ih =>
    have := enc_len r
    simp only [encs, List.flatMap_cons, List.length_append, List.length_cons] at *
    omega
theorem encs_snoc (zs : List Int) (k : Nat) (h : k < zs.length) : encs (zs.take (k + 1)) = encs (zs.take k) ++ enc (zs[k]?.getD 0) := by
  have e : zs[k]? = some zs[k] := List.getElem?_eq_getElem h
  unfold encs
  rw [List.take_add_one, List.flatMap_append, e]
  simp
def AllMay (l : List Int) : Prop := ∀ r ∈ l, May r
theorem AllMay.snoc {zs : List Int} {k : Nat} (h : k < zs.length) (ha : AllMay (zs.take k)) (hm : May (zs[k]?.getD 0)) : AllMay (zs.take (k + 1)) := by
  intro r hr
  rw [List.take_add_one, List.mem_append] at hr
  rcases hr with hr | hr
  · exact ha r hr
  · simp [h] at hr
    subst hr
    simpa [h] using hm
theorem AllMay.at {zs : List Int} (ha : AllMay zs) {k : Nat} (h : k < zs.length) : May (zs[k]?.getD 0) := by
  simp only [List.getElem?_eq_getElem h, Option.getD_some]
  exact ha _ (List.getElem_mem h)
theorem encs_bytes {l : List Int} (h : AllMay l) : ∀ c ∈ encs l, IsByte c := by
  intro c hc
  simp only [encs, List.mem_flatMap] at hc
  obtain ⟨r, hr, hc⟩ := hc
  exact enc_bytes (h r hr) c hc
end Utf
end Go.Proofs.YtbheafpbamkphaaGreatDoor
