/-
  THE CONTRACT OF THE REFERENCE's Runes.
-/
import Derived.Test.YtdcfjopijblndaaDoorUtfRow
import Derived.Test.YtdcfjopijblndaaDoorUtfValid
namespace Go.Proofs.YtdcfjopijblndaaDoor
open Go.RowKit
open Utf

theorem info_rune : (Tryd.prog.info? 94).map (fun i => (i.zero, i.size, i.bytes)) = some (some (.agg #[.int .i64 0, .int .i64 0]), 2, 16) := by kernel_rfl

namespace Utf
theorem dec_window (l : List Int) : dec (l.take 4) = dec l := by
  by_cases h : (dec l).2 = 0
  · rw [dec_zero h]
    apply dec_zero
    rw [dec_none] at h ⊢
    intro r hr hp
    exact h r hr (hp.trans (List.take_prefix _ _))
  · obtain ⟨a, b, c⟩ := dec_some (r := (dec l).1) (n := (dec l).2) rfl h
    have h4 := (dec_le l).2
    obtain ⟨t, ht⟩ := c
    have e : l.take 4 = enc (dec l).1 ++ t.take (4 - (dec l).2) := by
      conv => lhs; rw [← ht]
      rw [List.take_append, List.take_of_length_le (by rw [← rsize_enc a]; omega), ← rsize_enc a, b]
    rw [e, dec_enc a, ← b]

/-- The cells of runes with their places. -/
def flat (l : List RuneAt) : List Value := l.flatMap fun x => [.int .i64 (x.1.1 : Int), .int .i64 x.1.2]
theorem flat_snoc (l : List RuneAt) (x : RuneAt) : flat (l ++ [x]) = flat l ++ [.int .i64 (x.1.1 : Int), .int .i64 x.1.2] := by simp [flat]
theorem flat_length (l : List RuneAt) : (flat l).length = 2 * l.length := by
  induction l with
  | nil => rfl
  | cons x l ih => simp only [flat, List.flatMap_cons, List.length_append, List.length_cons, List.length_nil] at *; omega
theorem flat_get : ∀ (l : List RuneAt) (k : Nat) (h : k < l.length), (flat l)[2 * k]? = some (.int .i64 (l[k].1.1 : Int)) ∧ (flat l)[2 * k + 1]? = some (.int .i64 l[k].1.2)
  | x :: l, 0, _ => by simp [flat]
  | x :: l, k + 1, h => by
    have ih := flat_get l k (by simpa using h)
    have e : flat (x :: l) = .int .i64 (x.1.1 : Int) :: .int .i64 x.1.2 :: flat l := by simp [flat]
    rw [e, show 2 * (k + 1) = 2 * k + 1 + 1 by omega]
    simpa using ih
end Utf

theorem refget_eq (s : ByteArray) (w : World) (hs : s.size ≤ 9000) {r : Int} {n : Nat} (h : dec (bs s) = (r, n)) :
    Calls Tryd.prog 80 #[.string s] w fun e w' => e = .returned (.tuple #[.int .i64 r, .int .i64 (n : Nat)]) ∧ Below w.heap.size w w' :=
  (refget_any s w hs).mono fun e w' ⟨he, hw⟩ => ⟨by rw [he, h], hw⟩

theorem slice_four (s : ByteArray) (p : Nat) (h : p + 4 < s.size) (w : World) : (Instr.slice 9 (.string s) (some (.int .i64 (p : Int))) (some (.int .i64 ((p : Int) + 4))) none).run Tryd.prog w = .ok (.string (s.extract p (p + 4))) w := by
  rw [run_slice_string w 9 s .i64 .i64 (p : Int) ((p : Int) + 4) Tryd.underlying9 (by omega) (by omega) (by omega)]
  rw [show ((p : Int) + 4).toNat = p + 4 by omega, show (p : Int).toNat = p by omega]

theorem refrunes_kept {w w1 w2 : World} {e : TypeId} {k n : Nat} {v : Value} {xs : List Value} (h : w1.ownsRow w.heap.size e k v n xs) (hB : Below w1.heap.size w1 w2) : w2.ownsRow w.heap.size e k v n xs :=
  h.kept (row := none) ⟨hB.os, hB.tape, hB.output, hB.size, fun k hk _ => hB.block k hk⟩ (by cases hv : v.ownBlock <;> simp)

theorem pre2two (w : World) (a b : Value) (t : TypeId) : ∀ (j : Nat) (u : Value), [a, b][j]? = some u → (w.alloc (.cells #[a, b] t)).cell? ((⟨w.heap.size, 0, none⟩ : Addr).add j) = some u :=
  cells_new w #[a, b] t [a, b] (fun j u h => by simpa using h)

set_option maxRecDepth 100000 in
set_option maxHeartbeats 1000000 in
theorem refrunes_any (s : ByteArray) (w : World) (hs : s.size ≤ 9000) :
    Calls Tryd.prog 61 #[.string s] w fun e w' => ∃ v, e = .returned (.tuple #[v, .int .i64 (endR (allR (bs s)) : Nat)]) ∧
      w'.ownsRow w.heap.size 94 2 v (allR (bs s)).length (flat (allR (bs s))) ∧ Below w.heap.size w w' := by
  obtain ⟨i0, hi, hz0, hz1, hz2⟩ := info_parts info_rune
  go_enter Tryd.func61, Tryd.ntmps61
  go_wp2_with fail
  go_loopw [4, 5] (fun v i wr => ∃ (p : Nat) (pre : List RuneAt), p ≤ s.size ∧ i = .int .i64 p ∧ allR (bs s) = pre ++ tailR p ((bs s).drop p) ∧ p = endR pre ∧
    wr.ownsRow w.heap.size 94 2 v pre.length (flat pre) ∧ Below w.heap.size w wr ∧ pre.length ≤ p) (fun _ i _ => s.size - (intOf i).toNat)
  case atStart => exact ⟨0, [], by omega, rfl, rfl, rfl, World.ownsRow_nil _ _ _ _, Below.refl _ _, by simp⟩
  case round =>
    obtain ⟨p, pre, hp, rfl, hall, hend, hown, hB, hpl⟩ := hrel
    have HA := Lib.hid hall
    have HE := Lib.hid hend
    clear hall hend
    by_cases hlt : p < s.size
    · by_cases h4 : p + 4 < s.size
      · have hsl := slice_four s p h4
        have hwin : dec (bs (s.extract p (p + 4))) = dec ((bs s).drop p) := by
          rw [bs_extract]
          rw [show p + 4 - p = 4 by omega, dec_window]
        obtain ⟨r, n, hd⟩ : ∃ r n, dec ((bs s).drop p) = (r, n) := ⟨_, _, rfl⟩
        rw [hd] at hwin
        by_cases hn : n = 0
        · subst hn
          have hz := dec_zero (by rw [hd])
          have HW := Lib.hid (fun w => refget_eq (s.extract p (p + 4)) w (by simp; omega) (hwin.trans (hd.symm.trans hz)))
          have hall2 : allR (bs s) = pre := by
            rw [HA.out, tailR_stop, List.append_nil]
            · rw [List.length_drop, bs_length]; omega
            · rw [hz]
          have HA2 := Lib.hid hall2
          clear hall2 hz hd hwin
          go_wp2_with (go_at_call 80; refine (HW.out _).mono ?_; rintro e w' ⟨rfl, hB2⟩)
          go_ret2
          exact ⟨u4, by rw [HA2.out, ← HE.out]; rfl, by rw [HA2.out]; exact refrunes_kept hown hB2, hB.trans (hB2.mono hB.size)⟩
        · have HW := Lib.hid (fun w => refget_eq (s.extract p (p + 4)) w (by simp; omega) hwin)
          have hle := (dec_le ((bs s).drop p)).1
          rw [hd, List.length_drop, bs_length] at hle
          dsimp only at hle
          obtain ⟨x, hx1, hx2⟩ := tailR_step (p := p) (l := (bs s).drop p) (by rw [List.length_drop, bs_length]; omega) (by rw [hd]; exact hn)
          obtain ⟨hmay, hsz, _⟩ := dec_some hd hn
          rw [hd] at hx1 hx2
          dsimp only at hx1 hx2
          rw [List.drop_drop] at hx2
          have HX := Lib.hid hx1
          have HX2 := Lib.hid hx2
          have HZ := Lib.hid hsz
          have hn1 : 1 ≤ n := by omega
          have hb0 : ((n : Int) == 0) = false := by simp; omega
          clear hx1 hx2 hmay hsz hd hwin hn
          go_wp2_with (first | (go_at_call 80; refine (HW.out _).mono ?_; rintro e w' ⟨rfl, hB2⟩) | (at_builtin; refine wpList_append_own _ rfl _ _ 73 rfl w.heap.size 94 i0 (.agg #[.int .i64 0, .int .i64 0]) 2 16 Tryd.underlying73 hi hz0 hz1 hz2 rfl (by decide) _ _ _ rfl ((refrunes_kept hown hB2).alloc _) ⟨w'.heap.size, 0, none⟩ 1 1 [.int .i64 (p : Int), .int .i64 r] rfl rfl (pre2two _ _ _ _) (by simp [Value.oneCell']) (by unfold maxLen; omega) (by omega) (by have := hB.size; have := hB2.size; simp; omega) ?_; intro v' w3 hown' hgrow' _))
          have hB3 : Below w.heap.size w w3 := (hB.trans (hB2.mono hB.size)).trans (((Below.refl w.heap.size w').alloc (Nat.le_trans hB.size hB2.size) _).grown hgrow' (by have := hB.size; have := hB2.size; simp; omega) (fun k e => (hown.lt k e).1))
          go_roundw
          case rel =>
            refine ⟨p + n, pre ++ [x], by omega, by simp, by rw [HA.out, HX2.out]; simp, by rw [endR_snoc, HX.out, HZ.out], ?_, hB3, by simp; omega⟩
            rw [flat_snoc, HX.out, List.length_append]
            exact hown'
          case measure => simp [intOf]; omega
      · have h5 : s.size ≤ p + 4 := by omega
        clear h4
        have hwin : dec (bs (s.extract p s.size)) = dec ((bs s).drop p) := by
          rw [bs_extract]
          rw [List.take_of_length_le (by rw [List.length_drop, bs_length]; exact Nat.le_refl _)]
        obtain ⟨r, n, hd⟩ : ∃ r n, dec ((bs s).drop p) = (r, n) := ⟨_, _, rfl⟩
        rw [hd] at hwin
        by_cases hn : n = 0
        · subst hn
          have hz := dec_zero (by rw [hd])
          have HW := Lib.hid (fun w => refget_eq (s.extract p s.size) w (by simp; omega) (hwin.trans (hd.symm.trans hz)))
          have hall2 : allR (bs s) = pre := by
            rw [HA.out, tailR_stop, List.append_nil]
            · rw [List.length_drop, bs_length]; omega
            · rw [hz]
          have HA2 := Lib.hid hall2
          clear hall2 hz hd hwin
          go_wp2_with (go_at_call 80; refine (HW.out _).mono ?_; rintro e w' ⟨rfl, hB2⟩)
          go_ret2
          exact ⟨u4, by rw [HA2.out, ← HE.out]; rfl, by rw [HA2.out]; exact refrunes_kept hown hB2, hB.trans (hB2.mono hB.size)⟩
        · have HW := Lib.hid (fun w => refget_eq (s.extract p s.size) w (by simp; omega) hwin)
          have hle := (dec_le ((bs s).drop p)).1
          rw [hd, List.length_drop, bs_length] at hle
          dsimp only at hle
          obtain ⟨x, hx1, hx2⟩ := tailR_step (p := p) (l := (bs s).drop p) (by rw [List.length_drop, bs_length]; omega) (by rw [hd]; exact hn)
          obtain ⟨hmay, hsz, _⟩ := dec_some hd hn
          rw [hd] at hx1 hx2
          dsimp only at hx1 hx2
          rw [List.drop_drop] at hx2
          have HX := Lib.hid hx1
          have HX2 := Lib.hid hx2
          have HZ := Lib.hid hsz
          have hn1 : 1 ≤ n := by omega
          have hb0 : ((n : Int) == 0) = false := by simp; omega
          clear hx1 hx2 hmay hsz hd hwin hn
          go_wp2_with (first | (go_at_call 80; refine (HW.out _).mono ?_; rintro e w' ⟨rfl, hB2⟩) | (at_builtin; refine wpList_append_own _ rfl _ _ 73 rfl w.heap.size 94 i0 (.agg #[.int .i64 0, .int .i64 0]) 2 16 Tryd.underlying73 hi hz0 hz1 hz2 rfl (by decide) _ _ _ rfl ((refrunes_kept hown hB2).alloc _) ⟨w'.heap.size, 0, none⟩ 1 1 [.int .i64 (p : Int), .int .i64 r] rfl rfl (pre2two _ _ _ _) (by simp [Value.oneCell']) (by unfold maxLen; omega) (by omega) (by have := hB.size; have := hB2.size; simp; omega) ?_; intro v' w3 hown' hgrow' _))
          have hB3 : Below w.heap.size w w3 := (hB.trans (hB2.mono hB.size)).trans (((Below.refl w.heap.size w').alloc (Nat.le_trans hB.size hB2.size) _).grown hgrow' (by have := hB.size; have := hB2.size; simp; omega) (fun k e => (hown.lt k e).1))
          go_roundw
          case rel =>
            refine ⟨p + n, pre ++ [x], by omega, by simp, by rw [HA.out, HX2.out]; simp, by rw [endR_snoc, HX.out, HZ.out], ?_, hB3, by simp; omega⟩
            rw [flat_snoc, HX.out, List.length_append]
            exact hown'
          case measure => simp [intOf]; omega
    · obtain rfl : p = s.size := by omega
      have hall2 : allR (bs s) = pre := by
        rw [HA.out, tailR_stop, List.append_nil]
        · rw [List.length_drop, bs_length]; omega
        · rw [List.drop_of_length_le (by rw [bs_length]; omega)]; rfl
      have HA2 := Lib.hid hall2
      clear hall2
      go_wp2_with fail
      go_ret2
      exact ⟨u4, by rw [HA2.out, ← HE.out]; rfl, by rw [HA2.out]; exact hown, hB⟩
end Go.Proofs.YtdcfjopijblndaaDoor
