/-
  THE CONTRACT OF utf.Of.
-/
import Derived.Test.YthfflepgiikbjaaUtfKnown
namespace Go.Proofs.Ythfflepgiikbjaa
open Go.RowKit
open Utf

/-- A slice value's elements: the numbers zs, in a block below n0 (or there are none). -/
def IntsAt (n0 : Nat) (W : World) (a : Option Addr) (len : Nat) (zs : List Int) : Prop :=
  zs.length = len ∧ (len = 0 ∨ ∃ b off, a = some ⟨b, off, none⟩ ∧ b < n0 ∧ ∀ i, i < len → W.cell? ⟨b, off + i, none⟩ = some (.int .i64 (zs[i]?.getD 0)))

theorem IntsAt.below {n0 : Nat} {W W' : World} {a : Option Addr} {len : Nat} {zs : List Int} (h : IntsAt n0 W a len zs) (hB : Below n0 W W') : IntsAt n0 W' a len zs := by
  obtain ⟨h1, h2 | ⟨b, off, rfl, hb, hc⟩⟩ := h
  · exact ⟨h1, .inl h2⟩
  · exact ⟨h1, .inr ⟨b, off, rfl, hb, fun i hi => (hB.cell (p := ⟨b, off + i, none⟩) hb).trans (hc i hi)⟩⟩
theorem IntsAt.mono {n0 n1 : Nat} {W : World} {a : Option Addr} {len : Nat} {zs : List Int} (h : IntsAt n0 W a len zs) (hn : n0 ≤ n1) : IntsAt n1 W a len zs := by
  obtain ⟨h1, h2 | ⟨b, off, rfl, hb, hc⟩⟩ := h
  · exact ⟨h1, .inl h2⟩
  · exact ⟨h1, .inr ⟨b, off, rfl, by omega, hc⟩⟩

namespace Utf
def encs (l : List Int) : List Int := l.flatMap enc
theorem enc_len (r : Int) : (enc r).length ≤ 4 := by
  unfold enc; repeat' split
  all_goals simp
theorem encs_len (l : List Int) : (encs l).length ≤ 4 * l.length := by
  induction l with
  | nil => simp [encs]
  | cons r l ih =>
    have := enc_len r
    simp only [encs, List.flatMap_cons, List.length_append, List.length_cons] at *
    omega
theorem encs_snoc (zs : List Int) (k : Nat) (h : k < zs.length) : encs (zs.take (k + 1)) = encs (zs.take k) ++ enc (zs[k]?.getD 0) := by
  have e : zs[k]? = some zs[k] := List.getElem?_eq_getElem h
  unfold encs
  rw [List.take_add_one, List.flatMap_append, e]
  simp
def AllMay (l : List Int) : Prop := ∀ r ∈ l, May r
theorem AllMay.snoc {zs : List Int} {k : Nat} (h : k < zs.length) (ha : AllMay (zs.take k)) (hm : May (zs[k]?.getD 0)) : AllMay (zs.take (k + 1)) := by
  intro r hr
  rw [List.take_add_one, List.mem_append] at hr
  rcases hr with hr | hr
  · exact ha r hr
  · simp [h] at hr
    subst hr
    simpa [h] using hm
theorem AllMay.at {zs : List Int} (ha : AllMay zs) {k : Nat} (h : k < zs.length) : May (zs[k]?.getD 0) := by
  simp only [List.getElem?_eq_getElem h, Option.getD_some]
  exact ha _ (List.getElem_mem h)
theorem encs_bytes {l : List Int} (h : AllMay l) : ∀ c ∈ encs l, IsByte c := by
  intro c hc
  simp only [encs, List.mem_flatMap] at hc
  obtain ⟨r, hr, hc⟩ := hc
  exact enc_bytes (h r hr) c hc
end Utf

/-- A row of bytes that is one's own: nil, or at the head of a block. -/
theorem owns_forms {w : World} {B : Nat} {v : Value} {n : Nat} {xs : List Int} (h : w.ownsRow B 5 1 v n (xs.map (Value.int .u8))) :
    (v = .slice none 0 0 ∧ xs = []) ∨ ∃ g cap, v = .slice (some ⟨g, 0, none⟩) n cap ∧ g < w.heap.size ∧ xs.length = n ∧ ∀ i, i < n → w.cell? ⟨g, 0 + i, none⟩ = some (.int .u8 (xs.getD i 0)) := by
  have h' := h
  obtain ⟨hl, ⟨rfl, rfl⟩ | ⟨g, cap, cur, rfl, hg, hb, hle, _, hc, ht⟩⟩ := h
  · left; exact ⟨rfl, by simpa using hl⟩
  · have hxs : xs.length = n := by simpa using hl
    right
    refine ⟨g, cap, rfl, (Array.getElem?_eq_some_iff.1 hb).1, hxs, ?_⟩
    intro i hi
    have := h'.cellAt i (by omega)
    rw [Nat.zero_add, this, List.getElem?_map, List.getElem?_eq_getElem (by omega)]
    simp [hxs, hi]

theorem nil_string (w : World) : (convert 23 9 (.slice none 0 0)).run Try.prog w = .ok (.string (strOfNums [])) w := by
  rw [run_convert_bytes_nil w 23 5 Try.underlying23 Try.underlying5 _ _ _ Try.underlying9]
  rfl



set_option maxRecDepth 100000 in
set_option maxHeartbeats 2000000 in
theorem of_any (a : Option Addr) (len cap : Nat) (zs : List Int) (w : World) (h : IntsAt w.heap.size w a len zs) (hl : len ≤ 1000000) :
    Calls Try.prog 19 #[.slice a len cap] w fun e w' =>
      ((AllMay zs ∧ e = .returned (.tuple #[.string (strOfNums (encs zs)), .int .i64 0])) ∨ (¬ AllMay zs ∧ e = .returned (.tuple #[.string ⟨#[]⟩, .int .i64 2]))) ∧ Below w.heap.size w w' := by
  obtain ⟨i0, hi, hz0, hz1, hz2⟩ := info_parts info_u8
  obtain ⟨hzl, hcs⟩ := h
  have HC := Lib.hid hcs
  clear hcs
  have HL := Lib.hid hzl
  clear hzl
  go_enter Try.func19, Try.ntmps19
  go_wp2_with (at_make; refine wpList_make_own _ rfl _ _ 23 rfl w.heap.size 5 i0 (.int .u8 0) 1 Try.underlying23 hi hz0 hz1 .i64 .i64 _ len rfl rfl rfl (by rw [hz2]; omega) (by unfold maxLen; omega) (Nat.le_refl _) ?_; intro w0 hown0 hgrow0)
  have hB0 : Below w.heap.size w w0 := (Below.refl _ _).grown hgrow0 (Nat.le_refl _) (fun k e => by cases e)
  go_loopw [4, 13] (fun v i wr => ∃ k : Nat, k ≤ len ∧ i = .int .i64 k ∧ AllMay (zs.take k) ∧ wr.ownsRow w.heap.size 5 1 v (encs (zs.take k)).length ((encs (zs.take k)).map (Value.int .u8)) ∧ Below w.heap.size w wr) (fun _ i _ => len - (intOf i).toNat)
  case atStart => exact ⟨0, by omega, rfl, by simp [AllMay], by simpa [encs] using hown0, hB0⟩
  case round =>
    obtain ⟨k, hk, rfl, HA, hown, hB⟩ := hrel
    have hel := encs_len (zs.take k)
    have htl : (zs.take k).length ≤ k := List.length_take_le _ _
    by_cases hlt : k < len
    · obtain ⟨b, off, rfl, hb, hc⟩ : ∃ b off, a = some ⟨b, off, none⟩ ∧ b < w.heap.size ∧ ∀ i, i < len → w.cell? ⟨b, off + i, none⟩ = some (.int .i64 (zs[i]?.getD 0)) := by
        rcases HC.out with h0 | h0
        · omega
        · exact h0
      have hcx := (hB.cell (p := ⟨b, off + k, none⟩) hb).trans (hc k hlt)
      clear hc
      by_cases hm : May (zs[k]?.getD 0)
      · have HD := Lib.hid (add_any (zs[k]?.getD 0) wr w.heap.size hB.size _ _ _ hown (by omega) hm)
        have HM := Lib.hid hm
        have HO := Lib.hid hown
        clear hm hown
        go_wp2_with (go_at_call 21; refine HD.out.mono ?_; rintro e w' ⟨v', rfl, hown', hg'⟩)
        have hB' : Below w.heap.size w w' := hB.grown hg' hB.size (fun k e => (HO.out.lt k e).1)
        go_roundw
        case rel =>
          refine ⟨k + 1, by omega, by simp, HA.snoc (by have := HL.out; omega) HM.out, ?_, hB'⟩
          rw [encs_snoc _ _ (by have := HL.out; omega), List.length_append, ← rsize_enc HM.out]
          exact hown'
        case measure => simp [intOf]; omega
      · have HD := Lib.hid (add_none (zs[k]?.getD 0) wr u4 hm)
        have HM := Lib.hid hm
        clear hm hown
        go_wp2_with (go_at_call 21; refine HD.out.mono ?_; rintro e w' ⟨rfl, rfl⟩)
        go_ret2
        exact ⟨.inr ⟨fun h => HM.out (h.at (by have := HL.out; omega)), rfl⟩, hB.alloc hB.size _⟩
    · obtain rfl : k = len := by omega
      have hall : zs.take k = zs := List.take_of_length_le (by have := HL.out; omega)
      rw [hall] at HA hown
      clear hel htl hall
      rcases owns_forms hown with ⟨rfl, hx⟩ | ⟨g, cp, rfl, hg, hx, hcell⟩
      · have hs := nil_string wr
        have HX := Lib.hid hx
        clear hx hown
        go_wp2_with fail
        go_ret2
        exact ⟨.inl ⟨HA, by rw [HX.out]; rfl⟩, hB⟩
      · have hs := owns_string (cap := cp) hx hcell hg (Below.refl _ wr)
        clear hx hown hcell hg
        go_wp2_with fail
        go_ret2
        exact ⟨.inl ⟨HA, rfl⟩, hB⟩
end Go.Proofs.Ythfflepgiikbjaa
