/-
  CONTRACT OF slices.choosePivotOrdered at numbers of 32 bits: some place of the row.
-/
import Derived.Test.YtloonndeojfepaaUnSort5
namespace Go.Proofs.Ytloonndeojfepaa
open Go.RowKit Go.Sort
set_option linter.unusedVariables false
set_option linter.unusedSimpArgs false

/-- The row, and a count beside it. -/
structure SwpW (W0 : World) (blk off : Nat) (d : Array Nat) (sp m : Nat) (W : World) : Prop where
  row : SrtW W0 blk off d W
  new : W0.heap.size ≤ sp
  ne : sp ≠ blk
  cnt : ∃ x : Nat, x ≤ m ∧ W.heap[sp]? = some (.cells #[.int .i64 (x : Int)] 3 (0, 0))
theorem SrtW.other {W0 W : World} {blk off : Nat} {d : Array Nat} (h : SrtW W0 blk off d W) {sp : Nat} (hn : W0.heap.size ≤ sp) (hne : sp ≠ blk) (i : Nat) (v : Value) : SrtW W0 blk off d (W.setCell ⟨sp, i, none⟩ v) :=
  ⟨fun j hj => ⟨(World.cell?_of_block (a := ⟨blk, off + j, none⟩) (Below.heap_setCell _ _ _ _ (show blk ≠ sp from Ne.symm hne))).trans (h.holds j hj).1, by rw [World.frozen?_setCell]; exact (h.holds j hj).2⟩,
    ⟨h.turned.os, h.turned.tape, h.turned.output, by simpa [World.setCell] using h.turned.size, fun k hk hn2 => (Below.heap_setCell _ _ _ _ (show k ≠ sp by omega)).trans (h.turned.block k hk hn2)⟩⟩
theorem SwpW.drewN {W0 W : World} {blk off : Nat} {d : Array Nat} {sp m : Nat} (h : SwpW W0 blk off d sp m W) (k : Nat) : SwpW W0 blk off d sp m (W.drewN k) := ⟨h.row.drewN k, h.new, h.ne, h.cnt⟩
theorem SwpW.le {W0 W : World} {blk off : Nat} {d : Array Nat} {sp m m' : Nat} (h : SwpW W0 blk off d sp m W) (k : m ≤ m') : SwpW W0 blk off d sp m' W := ⟨h.row, h.new, h.ne, by obtain ⟨x, h1, h2⟩ := h.cnt; exact ⟨x, by omega, h2⟩⟩
set_option maxRecDepth 100000 in
set_option maxHeartbeats 4000000 in
theorem ord2_any {W0 W : World} {blk off : Nat} {d : Array Nat} {sp m : Nat} (h : SwpW W0 blk off d sp m W) (cap a b : Nat) (ha : a < d.size) (hb : b < d.size) (hn : d.size ≤ 1000000) (hm : m ≤ 1000) :
    Calls Try.prog 73 #[.slice (some ⟨blk, off, none⟩) d.size cap, .int .i64 (a : Int), .int .i64 (b : Int), .pointer (some ⟨sp, 0, none⟩)] W fun e w' => ∃ p q : Nat, e = .returned (.tuple #[.int .i64 (p : Int), .int .i64 (q : Int)]) ∧ ((p = a ∧ q = b) ∨ (p = b ∧ q = a)) ∧ SwpW W0 blk off d sp (m + 1) w' := by
  obtain ⟨n, hnn⟩ : ∃ n, n = d.size := ⟨_, rfl⟩
  have H := Lib.hid h
  have c1 := h.row.cell hb
  have c0 := h.row.cell ha
  rw [← hnn] at ha hb hn ⊢
  have q0 : (0 : Int) ≤ (a : Int) := by omega
  have q1 : (a : Int) < (n : Int) := by omega
  have q2 : (0 : Int) ≤ (b : Int) := by omega
  have q3 : (b : Int) < (n : Int) := by omega
  have HQ := Lib.hid (fun W => less_any d[b]! d[a]! W)
  clear h hnn
  cases hl : decide (d[b]! < d[a]!) with
  | false =>
    rw [hl] at HQ
    clear hl
    go_enter Try.func73, Try.ntmps73
    go_upto_region 1 with fail
    go_quiet ((go_at_call 61; exact Calls.quiet_of_same (HQ.out _)))
    go_wp2
    go_ret2
    exact ⟨a, b, by simp, .inl ⟨rfl, rfl⟩, (H.out.drewN _).le (by omega)⟩
  | true =>
    rw [hl] at HQ
    clear hl
    go_enter Try.func73, Try.ntmps73
    go_upto_region 1 with fail
    go_quiet ((go_at_call 61; exact Calls.quiet_of_same (HQ.out _)))
    have H2 := Lib.hid (H.out.drewN nq)
    generalize W.drewN nq = W2 at *
    obtain ⟨x, hx, hc⟩ := H2.out.cnt
    have x1 : W2.cell? ⟨sp, 0, none⟩ = some (.int .i64 (x : Int)) := cell_in hc rfl
    have x2 : W2.frozen? ⟨sp, 0, none⟩ = false := free_in hc 0
    have x3 : x + 1 ≤ 1000000001 := by omega
    have HE : Hid (SwpW W0 blk off d sp (m + 1) (W2.setCell ⟨sp, 0, none⟩ (.int .i64 ((x : Int) + 1)))) := Lib.hid ⟨H2.out.row.other H2.out.new H2.out.ne 0 _, H2.out.new, H2.out.ne, x + 1, by omega, heap_setCell_same W2 sp 0 _ _ _ hc⟩
    clear hc c1 c0
    go_wp2
    go_ret2
    exact ⟨b, a, by simp, .inr ⟨rfl, rfl⟩, HE.out⟩
set_option maxRecDepth 100000 in
set_option maxHeartbeats 4000000 in
theorem med_any {W0 W : World} {blk off : Nat} {d : Array Nat} {sp m : Nat} (h : SwpW W0 blk off d sp m W) (cap a b c : Nat) (ha : a < d.size) (hb : b < d.size) (hc : c < d.size) (hn : d.size ≤ 1000000) (hm : m ≤ 900) :
    Calls Try.prog 71 #[.slice (some ⟨blk, off, none⟩) d.size cap, .int .i64 (a : Int), .int .i64 (b : Int), .int .i64 (c : Int), .pointer (some ⟨sp, 0, none⟩)] W fun e w' => ∃ p : Nat, e = .returned (.int .i64 (p : Int)) ∧ (p = a ∨ p = b ∨ p = c) ∧ SwpW W0 blk off d sp (m + 3) w' := by
  have H1 : Hid (∀ (U : World) (k p q : Nat), SwpW W0 blk off d sp k U → k ≤ 1000 → p < d.size → q < d.size → Calls Try.prog 73 #[.slice (some ⟨blk, off, none⟩) d.size cap, .int .i64 (p : Int), .int .i64 (q : Int), .pointer (some ⟨sp, 0, none⟩)] U fun e w' => ∃ x y : Nat, e = .returned (.tuple #[.int .i64 (x : Int), .int .i64 (y : Int)]) ∧ ((x = p ∧ y = q) ∨ (x = q ∧ y = p)) ∧ SwpW W0 blk off d sp (k + 1) w') := Lib.hid (fun U k p q h1 h2 h3 h4 => ord2_any h1 cap p q h3 h4 hn h2)
  have H := Lib.hid h
  have HA := Lib.hid ha
  have HB := Lib.hid hb
  have HC := Lib.hid hc
  generalize d.size = n at *
  have HO1 := Lib.hid (H1.out W m a b H.out (by omega) ha hb)
  clear h ha hb hc
  go_enter Try.func71, Try.ntmps71
  go_upto_region 2 with (go_at_call 73; refine HO1.out.mono ?_; rintro e w1 ⟨a1, b1, rfl, h1, hw1⟩; replace h1 := Lib.hid h1; replace hw1 := Lib.hid hw1)
  have hb1 : b1 < n := by rcases h1.out with ⟨_, h⟩ | ⟨_, h⟩ <;> rw [h] <;> first | exact HA.out | exact HB.out
  have ha1 : a1 < n := by rcases h1.out with ⟨h, _⟩ | ⟨h, _⟩ <;> rw [h] <;> first | exact HA.out | exact HB.out
  have HO2 := Lib.hid (H1.out w1 (m + 1) b1 c hw1.out (by omega) hb1 HC.out)
  have HA1 := Lib.hid ha1
  have HB1 := Lib.hid hb1
  clear hb1 ha1
  go_upto_region 3 with (go_at_call 73; refine HO2.out.mono ?_; rintro e w2 ⟨b2, c2, rfl, h2, hw2⟩; replace h2 := Lib.hid h2; replace hw2 := Lib.hid hw2)
  have hb2 : b2 < n := by rcases h2.out with ⟨h, _⟩ | ⟨h, _⟩ <;> rw [h] <;> first | exact HB1.out | exact HC.out
  have HO3 := Lib.hid (H1.out w2 (m + 1 + 1) a1 b2 hw2.out (by omega) HA1.out hb2)
  clear hb2
  go_wp2_with (go_at_call 73; refine HO3.out.mono ?_; rintro e w3 ⟨a3, b3, rfl, h3, hw3⟩; replace h3 := Lib.hid h3; replace hw3 := Lib.hid hw3)
  go_ret
  refine ⟨b3, by simp, ?_, hw3.out⟩
  have h1 := h1.out
  have h2 := h2.out
  have h3 := h3.out
  omega
set_option maxRecDepth 100000 in
set_option maxHeartbeats 4000000 in
theorem medAdj_any {W0 W : World} {blk off : Nat} {d : Array Nat} {sp m : Nat} (h : SwpW W0 blk off d sp m W) (cap a : Nat) (ha : 0 < a) (hb : a + 1 < d.size) (hn : d.size ≤ 1000000) (hm : m ≤ 900) :
    Calls Try.prog 70 #[.slice (some ⟨blk, off, none⟩) d.size cap, .int .i64 (a : Int), .pointer (some ⟨sp, 0, none⟩)] W fun e w' => ∃ p : Nat, e = .returned (.int .i64 (p : Int)) ∧ (a - 1 ≤ p ∧ p ≤ a + 1) ∧ SwpW W0 blk off d sp (m + 3) w' := by
  obtain ⟨am, ham⟩ : ∃ am, am = a - 1 := ⟨_, rfl⟩
  have HM := Lib.hid (med_any h cap am a (a + 1) (by omega) (by omega) (by omega) hn hm)
  have hcc : ((a + 1 : Nat) : Int) = (a : Int) + 1 := by simp
  rw [hcc] at HM
  have v1 : IntKind.i64.wrap ((a : Int) - 1) = (am : Int) := wrap_nat _ _ (by omega) (by omega)
  have v2 : a + 1 ≤ 1000000001 := by omega
  have HP : Hid (∀ p, p = am ∨ p = a ∨ p = a + 1 → a - 1 ≤ p ∧ p ≤ a + 1) := Lib.hid (fun p hp => by omega)
  clear h ham hcc
  generalize d.size = n at *
  go_enter Try.func70, Try.ntmps70
  go_wp2_with (go_at_call 71; refine HM.out.mono ?_; rintro e w1 ⟨p, rfl, hp, hw1⟩; replace hp := Lib.hid hp; replace hw1 := Lib.hid hw1)
  go_ret
  exact ⟨p, by simp, HP.out p hp.out, hw1.out⟩
end Go.Proofs.Ytloonndeojfepaa
