/-
  CONTRACTS OF bits, known.
-/
import Derived.Test.YtfnjemhmipngdaaCoNums
import Derived.Laws.FloatBits
import Derived.Laws.Externs
namespace Go.Proofs.Ytfnjemhmipngdaa
open Go.RowKit
set_option linter.unusedVariables false
set_option linter.unusedSimpArgs false

/-- Three look-ups: 10 by 4, 0 by 0, 3 by 0. -/
def lookA : LookD := ⟨4621819117588971520, 0, -1, -1, 4616189618054758400, 0, 0⟩
def lookB : LookD := ⟨0, 0, -1, -1, 0, 0, 0⟩
def lookE : LookD := ⟨4613937818241073152, 0, -1, -1, 0, 0, 0⟩
theorem one_div {l : LookD} (h0 : l.v0 = 0) (h1 : l.v1 = -1) (h2 : l.v2 = -1) {r : Nat} (h : SizeR (knB [true]) l r) : ∃ y, DivR l.c l.d0 y ∧ r = numF y := by
  obtain ⟨x, ⟨y2, ⟨y1, ⟨y0, hy0, s0⟩, s1⟩, s2⟩, rfl⟩ := h
  have hy0 : y0 = l.c := hy0
  subst hy0
  have d0 : dvB (knB [true]) l 0 = true := by unfold dvB LookD.v; simp [h0, knB]
  have d1 : dvB (knB [true]) l 1 = false := by unfold dvB LookD.v; simp [h1]
  have d2 : dvB (knB [true]) l 2 = false := by unfold dvB LookD.v; simp [h2]
  rcases s2 with ⟨e, _⟩ | ⟨_, rfl⟩
  · rw [d2] at e; cases e
  rcases s1 with ⟨e, _⟩ | ⟨_, rfl⟩
  · rw [d1] at e; cases e
  rcases s0 with ⟨_, e⟩ | ⟨e, _⟩
  · exact ⟨_, e, rfl⟩
  · rw [d0] at e; cases e
theorem sizeA {r : Nat} (h : SizeR (knB [true]) lookA r) : r = 4612811918334230528 := by
  obtain ⟨y, hd, rfl⟩ := one_div rfl rfl rfl h
  have e : FloatKind.f64.format.div lookA.c lookA.d0 = some 4612811918334230528 := by decide +kernel
  rcases hd with hd | ⟨hd, _⟩
  · rw [e] at hd
    injection hd with hd
    subst hd
    decide +kernel
  · rw [e] at hd; cases hd
theorem sizeB {r : Nat} (h : SizeR (knB [true]) lookB r) : r = 0 := by
  obtain ⟨y, hd, rfl⟩ := one_div rfl rfl rfl h
  have e : FloatKind.f64.format.div lookB.c lookB.d0 = none := by decide +kernel
  rcases hd with hd | ⟨_, hd⟩
  · rw [e] at hd; cases hd
  · simp [numF, hd]
theorem sizeE {r : Nat} (h : SizeR (knB [true]) lookE r) : r = 9218868437227405312 := by
  obtain ⟨y, hd, rfl⟩ := one_div rfl rfl rfl h
  have e : FloatKind.f64.format.div lookE.c lookE.d0 = some 9218868437227405312 := by decide +kernel
  rcases hd with hd | ⟨hd, _⟩
  · rw [e] at hd
    injection hd with hd
    subst hd
    decide +kernel
  · rw [e] at hd; cases hd
theorem size_one {l : LookD} {q : Nat} (h : ∀ r, SizeR (knB [true]) l r → r = q) (W : World) : Calls Try.prog 8 #[lookV l, .slice (some ⟨W.heap.size, 0, none⟩) 1 1] (W.alloc (.cells #[.bool true] 4)) fun e w' => e = .returned (fV q) ∧ Below W.heap.size W w' := by
  have hb := (Below.refl W.heap.size W).alloc (Nat.le_refl _) (.cells #[.bool true] 4)
  refine (size_any l (some ⟨W.heap.size, 0, none⟩) 1 [true] _ (fun _ => ⟨_, _, rfl, fun j x hx => ?_⟩)).mono ?_
  · rw [Nat.zero_add]
    refine cell_in (heap_alloc_new W _) ?_
    match j, hx with
    | 0, hx => cases hx; rfl
    | j + 1, hx => simp at hx
  · rintro e w' ⟨⟨r, rfl, hr⟩, hB⟩
    exact ⟨by rw [h r hr], hb.trans (hB.mono hb.size)⟩
theorem run_bits (x : Nat) (W : World) : (callFunc 13 #[fV x]).run Try.prog W = .ok (.value (.int .u64 (x : Int))) W := by
  rw [run_callFunc_extern Try.func13 (by kernel_rfl) (by kernel_rfl) (by kernel_rfl) (e := Extern.MathFloatBits.float64bits) (by kernel_rfl)]
  rfl
theorem bits_same (a : Nat) (ha : isN a = false) (w : World) : Calls Try.prog 7 #[fV a, fV a] w fun e w' => e = .returned (.bool true) ∧ w' = w := by
  have hb := run_bits
  have h1 : (FloatKind.f64.format.order a a == some Ordering.eq) = true := by rw [order_self', ha]; rfl
  have h2 : ((a : Int) == (a : Int)) = true := by simp
  go_enter Try.func7, Try.ntmps7
  go_wp2
  go_ret
  exact ⟨rfl, rfl⟩
set_option maxRecDepth 100000 in
theorem known_any (w : World) : Calls Try.prog 6 #[] w fun e w' => e = .returned (.bool true) ∧ Below w.heap.size w w' := by
  have HA := Lib.hid (fun W => size_one (fun r => sizeA) W)
  have HB := Lib.hid (fun W => size_one (fun r => sizeB) W)
  have HE := Lib.hid (fun W => size_one (fun r => sizeE) W)
  have q1 : (FloatKind.f64.format.order 4612811918334230528 4612811918334230528 == some Ordering.eq) = true := by decide +kernel
  have q2 : (FloatKind.f64.format.order 0 0 == some Ordering.eq) = true := by decide +kernel
  have q3 : (FloatKind.f64.format.order 9218868437227405312 9214871658872686752 == some Ordering.gt) = true := by decide +kernel
  go_enter Try.func6, Try.ntmps6
  go_upto_region 2 with (go_at_call 8; refine (HA.out _).mono ?_; rintro e w1 ⟨rfl, h1⟩; replace h1 := Lib.hid h1)
  go_upto_region 3 with (go_at_call 8; refine (HB.out _).mono ?_; rintro e w2 ⟨rfl, h2⟩; replace h2 := Lib.hid h2)
  go_upto_region 4 with (go_at_call 8; refine (HE.out _).mono ?_; rintro e w3 ⟨rfl, h3⟩; replace h3 := Lib.hid h3)
  trace_state
  go_wp2
  go_ret
  have b2 := h1.out.trans (h2.out.mono h1.out.size)
  exact ⟨rfl, b2.trans (h3.out.mono b2.size)⟩
end Go.Proofs.Ytfnjemhmipngdaa
