/-
  WHAT THE PROOF STANDS ON, a part of it: EqT, RuD, RuMay, RuMay2.
-/
import Derived.Test.YtbcoklbfebmpoaaGreatDoorU5
import Derived.ChangeKeysEq
import Derived.Test.YtbcoklbfebmpoaaGreatDoorU22
import Derived.BigGuardPart
import Derived.Deep.LoopGhost
import Derived.WalkKit
/-
  '==' OF STRINGS AND OF TERMS.
-/

namespace Go.Proofs.YtbcoklbfebmpoaaGreatDoor
open Go.RowKit
open Utf
set_option linter.unusedVariables false
set_option linter.unusedSimpArgs false
set_option maxRecDepth 100000

theorem bytes_toListT {s t : ByteArray} : s.toList = t.toList ↔ s = t := by
  constructor
  · intro h
    rw [ByteArray.toList_eq, ByteArray.toList_eq] at h
    exact ByteArray.ext (Array.toList_inj.1 h)
  · rintro rfl; rfl
theorem termT_eql (a b : TermD) (w : World) : (binOp .eql 31 (.agg #[.int .i64 a.1, .string a.2.1, .string a.2.2]) (.agg #[.int .i64 b.1, .string b.2.1, .string b.2.2])).run Tryz.prog w = .ok (.bool (decide (a = b))) w := by
  obtain ⟨k, t, x⟩ := a
  obtain ⟨k', t', x'⟩ := b
  go_simp
  simp only [bytes_toListT]
  by_cases h1 : k = k' <;> by_cases h2 : t = t' <;> by_cases h3 : x = x' <;> simp [h1, h2, h3]
end Go.Proofs.YtbcoklbfebmpoaaGreatDoor

/-
  SLOTS, PATTERNS, PARTS, RULES AS VALUES; '==' OF THEM.
-/

namespace Go.Proofs.YtbcoklbfebmpoaaGreatDoor
open Go.RowKit
open Utf Term
set_option linter.unusedVariables false
set_option linter.unusedSimpArgs false
set_option maxRecDepth 100000

theorem slot_eqIn (n : Nat) (a b : SlotD) (w : World) : (Op.equalIn (n + 3) 33 (.agg (slotC a)) (.agg (slotC b))).run Tryz.prog w = .ok (decide (a = b)) w := by
  obtain ⟨v, k, t, x⟩ := a
  obtain ⟨v', k', t', x'⟩ := b
  go_simp
  simp only [bytes_toListT, Prod.mk.injEq]
  by_cases h0 : v = v' <;> by_cases h1 : k = k' <;> by_cases h2 : t = t' <;> by_cases h3 : x = x' <;> simp [h0, h1, h2, h3]
theorem slot_eql (a b : SlotD) (w : World) : (binOp .eql 33 (.agg (slotC a)) (.agg (slotC b))).run Tryz.prog w = .ok (.bool (decide (a = b))) w := by
  rw [run_eql_struct]
  have := slot_eqIn 9997 a b w
  rw [this]
  rfl
theorem parts0 (p : PatD) (w : World) : (part 33 (patC p) 0).run Tryz.prog w = .ok (.agg (slotC p.1)) w := by kernel_rfl
theorem parts1 (p : PatD) (w : World) : (part 33 (patC p) 4).run Tryz.prog w = .ok (.agg (slotC p.2.1)) w := by kernel_rfl
theorem parts2 (p : PatD) (w : World) : (part 33 (patC p) 8).run Tryz.prog w = .ok (.agg (slotC p.2.2)) w := by kernel_rfl
theorem pat_eqIn (n : Nat) (p q : PatD) (w : World) : (Op.equalIn (n + 4) 35 (.agg (patC p)) (.agg (patC q))).run Tryz.prog w = .ok (decide (p = q)) w := by
  obtain ⟨i, hi⟩ : ∃ i, Tryz.prog.info? 33 = some i := Option.isSome_iff_exists.1 (by kernel_rfl)
  have hc : Tryz.prog.cellsOf 33 = 4 := by kernel_rfl
  have hr : List.range 3 = [0, 1, 2] := rfl
  rw [run_equalIn_array (w := w) (n + 3) _ _ Tryz.underlying35 hi, hc, hr]
  simp only [Op.eqItems, Sem.run_bind, Nat.zero_mul, Nat.one_mul, Nat.reduceMul, parts0, parts1, parts2, Result.andThen_ok, slot_eqIn]
  obtain ⟨a, b, c⟩ := p
  obtain ⟨a', b', c'⟩ := q
  by_cases h1 : a = a'
  · by_cases h2 : b = b'
    · by_cases h3 : c = c'
      · simp [h1, h2, h3, parts1, parts2, slot_eqIn]
      · simp [h1, h2, h3, parts1, parts2, slot_eqIn]
    · simp [h1, h2, parts1, parts2, slot_eqIn]
  · simp [h1]
theorem pat_eql (p q : PatD) (w : World) : (binOp .eql 35 (.agg (patC p)) (.agg (patC q))).run Tryz.prog w = .ok (.bool (decide (p = q))) w := by
  rw [run_eql_struct]
  rw [pat_eqIn 9996 p q w]
  rfl
theorem litp0 (l : LitD) (w : World) : (part 28 (litC l) 0).run Tryz.prog w = .ok (.int .i64 l.1) w := by kernel_rfl
theorem litp1 (l : LitD) (w : World) : (part 35 (litC l) 1).run Tryz.prog w = .ok (.agg (patC l.2.1)) w := by kernel_rfl
theorem litp2 (l : LitD) (w : World) : (part 33 (litC l) 13).run Tryz.prog w = .ok (.agg (slotC l.2.2.1)) w := by kernel_rfl
theorem litp3 (l : LitD) (w : World) : (part 33 (litC l) 17).run Tryz.prog w = .ok (.agg (slotC l.2.2.2)) w := by kernel_rfl
theorem lit_eql (p q : LitD) (w : World) : (binOp .eql 37 (.agg (litC p)) (.agg (litC q))).run Tryz.prog w = .ok (.bool (decide (p = q))) w := by
  rw [run_eql_struct]
  have h0 : (Op.equalIn 9999 28 (.int .i64 p.1) (.int .i64 q.1)).run Tryz.prog w = .ok (decide (p.1 = q.1)) w := by
    go_simp
    rw [Bool.eq_iff_iff]; simp
  have h1 := pat_eqIn 9995 p.2.1 q.2.1 w
  have h2 := slot_eqIn 9996 p.2.2.1 q.2.2.1 w
  have h3 := slot_eqIn 9996 p.2.2.2 q.2.2.2 w
  have hs : Tryz.prog.stoodInHeld 37 = false := by kernel_rfl
  have hp : (program).run Tryz.prog w = .ok Tryz.prog w := rfl
  rw [Op.equalIn]
  simp only [Sem.run_bind, run_underlying Tryz.underlying37, Result.andThen_ok, hp, hs]
  have a0 := litp0 p w
  have a1 := litp1 p w
  have a2 := litp2 p w
  have a3 := litp3 p w
  have b0 := litp0 q w
  have b1 := litp1 q w
  have b2 := litp2 q w
  have b3 := litp3 q w
  generalize litC p = P at *
  generalize litC q = Q at *
  obtain ⟨k, pt, A, B⟩ := p
  obtain ⟨k', pt', A', B'⟩ := q
  simp only [Prod.mk.injEq] at *
  have h1 : (Op.equalIn 9999 35 (.agg (patC pt)) (.agg (patC pt'))).run Tryz.prog w = .ok (decide (pt = pt')) w := h1
  have h2 : (Op.equalIn 9999 33 (.agg (slotC A)) (.agg (slotC A'))).run Tryz.prog w = .ok (decide (A = A')) w := h2
  have h3 : (Op.equalIn 9999 33 (.agg (slotC B)) (.agg (slotC B'))).run Tryz.prog w = .ok (decide (B = B')) w := h3
  generalize patC pt = u1 at *
  generalize patC pt' = u1' at *
  generalize slotC A = u2 at *
  generalize slotC A' = u2' at *
  generalize slotC B = u3 at *
  generalize slotC B' = u3' at *
  by_cases e0 : k = k'
  · rw [decide_eq_true e0] at h0
    by_cases e1 : pt = pt'
    · rw [decide_eq_true e1] at h1
      by_cases e2 : A = A'
      · rw [decide_eq_true e2] at h2
        by_cases e3 : B = B'
        · rw [decide_eq_true e3] at h3
          have hd : decide (k = k' ∧ pt = pt' ∧ A = A' ∧ B = B') = true := decide_eq_true ⟨e0, e1, e2, e3⟩
          rw [hd]
          clear e0 e1 e2 e3
          simp [a0, a1, a2, a3, b0, b1, b2, b3, h0, h1, h2, h3]
        · rw [decide_eq_false e3] at h3
          have hd : decide (k = k' ∧ pt = pt' ∧ A = A' ∧ B = B') = false := decide_eq_false (fun h => e3 h.2.2.2)
          rw [hd]
          clear e0 e1 e2 e3
          simp [a0, a1, a2, a3, b0, b1, b2, b3, h0, h1, h2, h3]
      · rw [decide_eq_false e2] at h2
        have hd : decide (k = k' ∧ pt = pt' ∧ A = A' ∧ B = B') = false := decide_eq_false (fun h => e2 h.2.2.1)
        rw [hd]
        clear e0 e1 e2
        simp [a0, a1, a2, b0, b1, b2, h0, h1, h2]
    · rw [decide_eq_false e1] at h1
      have hd : decide (k = k' ∧ pt = pt' ∧ A = A' ∧ B = B') = false := decide_eq_false (fun h => e1 h.2.1)
      rw [hd]
      clear e0 e1
      simp [a0, a1, b0, b1, h0, h1]
  · rw [decide_eq_false e0] at h0
    have hd : decide (k = k' ∧ pt = pt' ∧ A = A' ∧ B = B') = false := decide_eq_false (fun h => e0 h.1)
    rw [hd]
    clear e0
    simp [a0, b0, h0]

theorem neq_of_eql {t : TypeId} {x y : Value} {r : Bool} {w : World} {xs ys : Array Value} (hx : x = .agg xs) (hy : y = .agg ys) (h : (binOp .eql t x y).run Tryz.prog w = .ok (.bool r) w) : (binOp .neq t x y).run Tryz.prog w = .ok (.bool (!r)) w := by
  subst hx hy
  rw [run_neq_struct]
  rw [run_eql_struct] at h
  generalize Sem.run Tryz.prog (Op.equalIn 10000 t (.agg xs) (.agg ys)) w = R at h ⊢
  cases R with
  | ok b w' =>
    simp only [Result.andThen_ok, Result.ok.injEq, Value.bool.injEq] at h ⊢
    exact ⟨by rw [h.1], h.2⟩
  | _ => simp [Result.andThen] at h
theorem pat_neq (p q : PatD) (w : World) : (binOp .neq 35 (.agg (patC p)) (.agg (patC q))).run Tryz.prog w = .ok (.bool (!decide (p = q))) w := neq_of_eql rfl rfl (pat_eql p q w)
theorem lit_neq (p q : LitD) (w : World) : (binOp .neq 37 (.agg (litC p)) (.agg (litC q))).run Tryz.prog w = .ok (.bool (!decide (p = q))) w := neq_of_eql rfl rfl (lit_eql p q w)
end Go.Proofs.YtbcoklbfebmpoaaGreatDoor

/-
  CONTRACTS OF rules.isName, MaySlot, mayPattern, mayPart.
-/

namespace Go.Proofs.YtbcoklbfebmpoaaGreatDoor
open Go.RowKit
open Utf Term
set_option linter.unusedVariables false
set_option linter.unusedSimpArgs false

def VastS (s : ByteArray) : Prop := s.size ≤ 9223372036854775807
def VastSl (s : SlotD) : Prop := VastS s.1 ∧ VastS s.2.2.1 ∧ VastS s.2.2.2
def VastP (p : PatD) : Prop := VastSl p.1 ∧ VastSl p.2.1 ∧ VastSl p.2.2
def VastL (l : LitD) : Prop := VastP l.2.1 ∧ VastSl l.2.2.1 ∧ VastSl l.2.2.2
abbrev HasMax (W : World) (m : Int) : Prop := W.cell? ⟨1, 0, none⟩ = some (.int .i64 m)

set_option maxRecDepth 100000 in
set_option maxHeartbeats 2000000 in
theorem ruName_any (v : ByteArray) (hv : VastS v) (m : Int) (w : World) (hm : HasMax w m) :
    Calls Tryz.prog 33 #[.string v] w fun e w' => e = .returned (.bool (nameB v)) ∧ Below w.heap.size w w' := by
  have HM := Lib.hid (fun W (h : HasMax W m) => may_vast 2 v ⟨#[]⟩ hv (by decide) m W h)
  have Hm := Lib.hid hm
  have HN : Hid (nameB v = (decide (v.size ≤ 32) && mayS 2 v ⟨#[]⟩)) := Lib.hid rfl
  unfold VastS at hv
  generalize nameB v = N at *
  generalize mayS 2 v ⟨#[]⟩ = M at *
  clear hm
  by_cases h : v.size ≤ 32
  · have d : decide ((v.size : Int) ≤ 32) = true := by simp; omega
    rw [decide_eq_true h, Bool.true_and] at HN
    clear h
    go_enter Tryz.func33, Tryz.ntmps33
    go_wp2_with (go_at_call 34; refine (HM.out _ Hm.out).mono ?_; rintro e w' ⟨rfl, hB⟩)
    go_ret
    exact ⟨ret_bool HN.out.symm, hB⟩
  · have d : decide ((v.size : Int) ≤ 32) = false := by simp; omega
    rw [decide_eq_false h, Bool.false_and] at HN
    clear h
    go_enter Tryz.func33, Tryz.ntmps33
    go_wp2_with fail
    go_ret
    exact ⟨ret_bool HN.out.symm, Below.refl _ _⟩

theorem bcellR {W w1 : World} (hb : Below W.heap.size W w1) : (∀ b o, b < W.heap.size → w1.cell? ⟨b, o, none⟩ = W.cell? ⟨b, o, none⟩) ∧ (∀ b o, b < W.heap.size → w1.frozen? ⟨b, o, none⟩ = W.frozen? ⟨b, o, none⟩) :=
  ⟨fun b o h => hb.cell (p := ⟨b, o, none⟩) h, fun b o h => hb.frozen (p := ⟨b, o, none⟩) h⟩
theorem size_of_alloc {w W1 : World} {o : Obj} (h : Below (w.alloc o).heap.size (w.alloc o) W1) : w.heap.size < W1.heap.size := by
  have := h.size
  rw [World.size_alloc] at this
  omega
theorem empty_size {v : ByteArray} (h : v.size = 0) : v = ⟨#[]⟩ := by
  obtain ⟨d⟩ := v
  have : d = #[] := Array.eq_empty_of_size_eq_zero h
  rw [this]
theorem string_neq_empty {v : ByteArray} (h : v.size ≠ 0) : v.toList.isEmpty = false := by
  cases hv : v.toList.isEmpty with
  | false => rfl
  | true =>
    exfalso
    rw [List.isEmpty_iff, ByteArray.toList_eq] at hv
    have : v.data.size = 0 := by rw [← Array.length_toList, hv]; rfl
    exact h this

set_option maxRecDepth 100000 in
set_option maxHeartbeats 2000000 in
theorem ruSlot_any (s : SlotD) (hs : VastSl s) (m : Int) (w : World) (hm : HasMax w m) :
    Calls Tryz.prog 15 #[.agg (slotC s)] w fun e w' => e = .returned (.bool (slotB s)) ∧ Below w.heap.size w w' := by
  obtain ⟨v, k, t, x⟩ := s
  obtain ⟨hv, ht, hx⟩ := hs
  have HB := Lib.hid (below_new w (.cells (slotC (v, k, t, x)) 33))
  have Hm := Lib.hid (cell_below HB.out hm)
  clear hm
  by_cases h0 : v.size = 0
  · have HR : Hid (slotB (v, k, t, x) = mayS k t x) := Lib.hid (by unfold slotB; rw [if_pos h0]; rfl)
    obtain rfl := empty_size h0
    have HM := Lib.hid (fun W (h : HasMax W m) => may_vast k t x ht hx m W h)
    generalize slotB _ = R at *
    generalize mayS k t x = M at *
    clear h0
    go_enter Tryz.func15, Tryz.ntmps15
    go_wp2_with (go_at_call 34; refine (HM.out _ Hm.out).mono ?_; rintro e w' ⟨rfl, hB⟩)
    go_ret
    exact ⟨ret_bool HR.out.symm, below_step HB.out hB⟩
  · have HR : Hid (slotB (v, k, t, x) = (nameB v && decide ((k, t, x) = zTe))) := Lib.hid (by unfold slotB; rw [if_neg h0])
    have hne := string_neq_empty h0
    have HQ : Hid (∀ W, (binOp .eql 31 (.agg #[.int .i64 k, .string t, .string x]) (.agg #[.int .i64 0, .string ⟨#[]⟩, .string ⟨#[]⟩])).run Tryz.prog W = .ok (.bool (decide ((k, t, x) = zTe))) W) := Lib.hid (fun W => termT_eql (k, t, x) zTe W)
    have HN := Lib.hid (fun W (h : HasMax W m) => ruName_any v hv m W h)
    generalize slotB _ = R at *
    generalize decide ((k, t, x) = zTe) = D at *
    clear h0
    cases hn : nameB v with
    | false =>
      rw [hn] at HR HN
      rw [Bool.false_and] at HR
      clear hn HQ
      go_enter Tryz.func15, Tryz.ntmps15
      go_wp2_with (go_at_call 33; refine (HN.out _ Hm.out).mono ?_; rintro e w' ⟨rfl, hB⟩)
      go_ret
      exact ⟨ret_bool HR.out.symm, below_step HB.out hB⟩
    | true =>
      rw [hn] at HR HN
      rw [Bool.true_and] at HR
      clear hn
      have hq := HQ.out
      go_enter Tryz.func15, Tryz.ntmps15
      go_wp2_with (go_at_call 33; refine (HN.out _ Hm.out).mono ?_; rintro e w' ⟨rfl, hB⟩; obtain ⟨hc, hf⟩ := bcellR hB)
      go_ret
      exact ⟨ret_bool HR.out.symm, below_step HB.out hB⟩

set_option maxRecDepth 100000 in
set_option maxHeartbeats 2000000 in
theorem ruPat_any (p : PatD) (hp : VastP p) (m : Int) (w : World) (hm : HasMax w m) :
    Calls Tryz.prog 65 #[.agg (patC p)] w fun e w' => e = .returned (.bool (patB p)) ∧ Below w.heap.size w w' := by
  obtain ⟨a, b, c⟩ := p
  obtain ⟨ha, hb, hc⟩ := hp
  have HB := Lib.hid (below_new w (.cells (patC (a, b, c)) 35))
  have Hm := Lib.hid (cell_below HB.out hm)
  have HA := Lib.hid (fun W (h : HasMax W m) => ruSlot_any a ha m W h)
  have HBb := Lib.hid (fun W (h : HasMax W m) => ruSlot_any b hb m W h)
  have HC := Lib.hid (fun W (h : HasMax W m) => ruSlot_any c hc m W h)
  have HR : Hid (patB (a, b, c) = (slotB a && slotB b && slotB c)) := Lib.hid rfl
  generalize patB _ = R at *
  clear hm ha hb hc
  cases h1 : slotB a with
  | false =>
    rw [h1] at HA HR
    rw [Bool.false_and, Bool.false_and] at HR
    clear h1 HBb HC
    go_enter Tryz.func65, Tryz.ntmps65
    go_wp2_with (go_at_call 15; refine (HA.out _ Hm.out).mono ?_; rintro e w' ⟨rfl, hB⟩)
    go_ret
    exact ⟨ret_bool HR.out.symm, below_step HB.out hB⟩
  | true =>
    rw [h1] at HA HR
    rw [Bool.true_and] at HR
    clear h1
    cases h2 : slotB b with
    | false =>
      rw [h2] at HBb HR
      rw [Bool.false_and] at HR
      clear h2 HC
      go_enter Tryz.func65, Tryz.ntmps65
      go_wp2_with (go_at_call 15; (with_reducible refine (HA.out _ Hm.out).mono ?_); rintro e w1 ⟨rfl, hB1⟩; obtain ⟨hc1, hf1⟩ := bcellR hB1; have Hm1 := Lib.hid (cell_below hB1 Hm.out); have HB1 := Lib.hid (below_step HB.out hB1))
      go_wp2_with (go_at_call 15; (with_reducible refine (HBb.out _ Hm1.out).mono ?_); rintro e w2 ⟨rfl, hB2⟩)
      go_ret
      exact ⟨ret_bool HR.out.symm, below_step HB1.out hB2⟩
    | true =>
      rw [h2] at HBb HR
      rw [Bool.true_and] at HR
      clear h2
      go_enter Tryz.func65, Tryz.ntmps65
      go_wp2_with (go_at_call 15; (with_reducible refine (HA.out _ Hm.out).mono ?_); rintro e w1 ⟨rfl, hB1⟩; obtain ⟨hc1, hf1⟩ := bcellR hB1; have Hm1 := Lib.hid (cell_below hB1 Hm.out); have HB1 := Lib.hid (below_step HB.out hB1); have hz1 := (size_of_alloc hB1))
      go_wp2_with (go_at_call 15; (with_reducible refine (HBb.out _ Hm1.out).mono ?_); rintro e w2 ⟨rfl, hB2⟩; obtain ⟨hc2, hf2⟩ := bcellR hB2; have Hm2 := Lib.hid (cell_below hB2 Hm1.out); have HB2 := Lib.hid (below_step HB1.out hB2))
      go_wp2_with (go_at_call 15; (with_reducible refine (HC.out _ Hm2.out).mono ?_); rintro e w3 ⟨rfl, hB3⟩)
      go_ret
      exact ⟨ret_bool HR.out.symm, below_step HB2.out hB3⟩

theorem below_new2 (w : World) (o o' : Obj) : Below w.heap.size w ((w.alloc o).alloc o') := below_step (below_new _ _) (below_new _ _)
theorem size_of_alloc2 {w W1 : World} {o o' : Obj} (h : Below ((w.alloc o).alloc o').heap.size ((w.alloc o).alloc o') W1) : w.heap.size + 1 < W1.heap.size := by
  have := h.size
  rw [World.size_alloc, World.size_alloc] at this
  omega
set_option maxRecDepth 100000 in
set_option maxHeartbeats 8000000 in
theorem ruPart_pat (k : Int) (hk : k = 1 ∨ k = 2) (p : PatD) (a b : SlotD) (hp : VastP p) (m : Int) (w : World) (hm : HasMax w m) :
    Calls Tryz.prog 31 #[.agg (litC (k, p, a, b))] w fun e w' => e = .returned (.bool (litB (k, p, a, b))) ∧ Below w.heap.size w w' := by
  have HB := Lib.hid (below_new2 w (.cells (litC (k, p, a, b)) 37) (.cells (litC zLi) 37))
  have Hm := Lib.hid (cell_below HB.out hm)
  have HP := Lib.hid (fun W (h : HasMax W m) => ruPat_any p hp m W h)
  have HQ1 : Hid (∀ W, (binOp .eql 33 (.agg (slotC a)) (.agg #[.string ⟨#[]⟩, .int .i64 0, .string ⟨#[]⟩, .string ⟨#[]⟩])).run Tryz.prog W = .ok (.bool (decide (a = zSl))) W) := Lib.hid (fun W => slot_eql a zSl W)
  have HQ2 : Hid (∀ W, (binOp .eql 33 (.agg (slotC b)) (.agg #[.string ⟨#[]⟩, .int .i64 0, .string ⟨#[]⟩, .string ⟨#[]⟩])).run Tryz.prog W = .ok (.bool (decide (b = zSl))) W) := Lib.hid (fun W => slot_eql b zSl W)
  have HR : Hid (litB (k, p, a, b) = (patB p && decide (a = zSl) && decide (b = zSl))) := Lib.hid (by unfold litB; rw [if_pos hk])
  generalize litB _ = R at *
  generalize decide (a = zSl) = D1 at *
  generalize decide (b = zSl) = D2 at *
  generalize patB p = D0 at *
  clear hm hp
  obtain ⟨⟨a0, a1, a2, a3⟩, ⟨b0, b1, b2, b3⟩, ⟨c0, c1, c2, c3⟩⟩ := p
  obtain ⟨x0, x1, x2, x3⟩ := a
  obtain ⟨y0, y1, y2, y3⟩ := b
  have hq1 := HQ1.out
  have hq2 := HQ2.out
  clear HQ1 HQ2
  cases D0 with
  | false =>
    rw [Bool.false_and, Bool.false_and] at HR
    clear hq1 hq2
    rcases hk with rfl | rfl
    all_goals
      go_enter Tryz.func31, Tryz.ntmps31
      go_wp2_with (go_at_call 65; refine (HP.out _ Hm.out).mono ?_; rintro e w' ⟨rfl, hB⟩)
      go_ret
      exact ⟨ret_bool HR.out.symm, below_step HB.out hB⟩
  | true =>
    rw [Bool.true_and] at HR
    cases D1 with
    | false =>
      rw [Bool.false_and] at HR
      clear hq2
      rcases hk with rfl | rfl
      all_goals
        go_enter Tryz.func31, Tryz.ntmps31
        go_wp2_with (go_at_call 65; refine (HP.out _ Hm.out).mono ?_; rintro e w' ⟨rfl, hB⟩; obtain ⟨hc1, hf1⟩ := bcellR hB)
        go_ret
        exact ⟨ret_bool HR.out.symm, below_step HB.out hB⟩
    | true =>
      rw [Bool.true_and] at HR
      rcases hk with rfl | rfl
      all_goals
        go_enter Tryz.func31, Tryz.ntmps31
        go_wp2_with (go_at_call 65; refine (HP.out _ Hm.out).mono ?_; rintro e w' ⟨rfl, hB⟩; obtain ⟨hc1, hf1⟩ := bcellR hB)
        go_ret
        exact ⟨ret_bool HR.out.symm, below_step HB.out hB⟩

set_option maxRecDepth 100000 in
set_option maxHeartbeats 8000000 in
theorem ruPart_cond (k : Int) (hk : k = 3 ∨ k = 4) (p : PatD) (a b : SlotD) (ha : VastSl a) (hb : VastSl b) (m : Int) (w : World) (hm : HasMax w m) :
    Calls Tryz.prog 31 #[.agg (litC (k, p, a, b))] w fun e w' => e = .returned (.bool (litB (k, p, a, b))) ∧ Below w.heap.size w w' := by
  have HB := Lib.hid (below_new2 w (.cells (litC (k, p, a, b)) 37) (.cells (litC zLi) 37))
  have Hm := Lib.hid (cell_below HB.out hm)
  have HA := Lib.hid (fun W (h : HasMax W m) => ruSlot_any a ha m W h)
  have HBb := Lib.hid (fun W (h : HasMax W m) => ruSlot_any b hb m W h)
  have HQ : Hid (∀ W, (binOp .eql 35 (.agg (patC p)) (.agg #[.string ⟨#[]⟩, .int .i64 0, .string ⟨#[]⟩, .string ⟨#[]⟩, .string ⟨#[]⟩, .int .i64 0, .string ⟨#[]⟩, .string ⟨#[]⟩, .string ⟨#[]⟩, .int .i64 0, .string ⟨#[]⟩, .string ⟨#[]⟩])).run Tryz.prog W = .ok (.bool (decide (p = zPa))) W) := Lib.hid (fun W => pat_eql p zPa W)
  have HR : Hid (litB (k, p, a, b) = (slotB a && slotB b && decide (p = zPa))) := Lib.hid (by unfold litB; rw [if_neg (by omega), if_pos hk])
  generalize litB _ = R at *
  generalize decide (p = zPa) = D2 at *
  generalize slotB a = D0 at *
  generalize slotB b = D1 at *
  clear hm ha hb
  obtain ⟨⟨a0, a1, a2, a3⟩, ⟨b0, b1, b2, b3⟩, ⟨c0, c1, c2, c3⟩⟩ := p
  have hq := HQ.out
  clear HQ
  cases D0 with
  | false =>
    rw [Bool.false_and, Bool.false_and] at HR
    clear hq
    rcases hk with rfl | rfl
    all_goals
      go_enter Tryz.func31, Tryz.ntmps31
      go_wp2_with (go_at_call 15; refine (HA.out _ Hm.out).mono ?_; rintro e w' ⟨rfl, hB⟩)
      go_ret
      exact ⟨ret_bool HR.out.symm, below_step HB.out hB⟩
  | true =>
    rw [Bool.true_and] at HR
    cases D1 with
    | false =>
      rw [Bool.false_and] at HR
      clear hq
      rcases hk with rfl | rfl
      all_goals
        go_enter Tryz.func31, Tryz.ntmps31
        go_wp2_with (go_at_call 15; (with_reducible refine (HA.out _ Hm.out).mono ?_); rintro e w1 ⟨rfl, hB1⟩; obtain ⟨hc1, hf1⟩ := bcellR hB1; have Hm1 := Lib.hid (cell_below hB1 Hm.out); have HB1 := Lib.hid (below_step HB.out hB1))
        go_wp2_with (go_at_call 15; (with_reducible refine (HBb.out _ Hm1.out).mono ?_); rintro e w2 ⟨rfl, hB2⟩)
        go_ret
        exact ⟨ret_bool HR.out.symm, below_step HB1.out hB2⟩
    | true =>
      rw [Bool.true_and] at HR
      rcases hk with rfl | rfl
      all_goals
        go_enter Tryz.func31, Tryz.ntmps31
        go_wp2_with (go_at_call 15; (with_reducible refine (HA.out _ Hm.out).mono ?_); rintro e w1 ⟨rfl, hB1⟩; obtain ⟨hc1, hf1⟩ := bcellR hB1; have Hm1 := Lib.hid (cell_below hB1 Hm.out); have HB1 := Lib.hid (below_step HB.out hB1); have hz1 := size_of_alloc2 hB1; have hz0 : w.heap.size < w1.heap.size := (by omega))
        go_wp2_with (go_at_call 15; (with_reducible refine (HBb.out _ Hm1.out).mono ?_); rintro e w2 ⟨rfl, hB2⟩; obtain ⟨hc2, hf2⟩ := bcellR hB2)
        go_ret
        exact ⟨ret_bool HR.out.symm, below_step HB1.out hB2⟩

set_option maxRecDepth 100000 in
set_option maxHeartbeats 8000000 in
theorem ruPart_any (l : LitD) (hl : VastL l) (m : Int) (w : World) (hm : HasMax w m) :
    Calls Tryz.prog 31 #[.agg (litC l)] w fun e w' => e = .returned (.bool (litB l)) ∧ Below w.heap.size w w' := by
  obtain ⟨k, p, a, b⟩ := l
  by_cases h12 : k = 1 ∨ k = 2
  · exact ruPart_pat k h12 p a b hl.1 m w hm
  by_cases h34 : k = 3 ∨ k = 4
  · exact ruPart_cond k h34 p a b hl.2.1 hl.2.2 m w hm
  have HB := Lib.hid (below_new2 w (.cells (litC (k, p, a, b)) 37) (.cells (litC zLi) 37))
  have HR : Hid (litB (k, p, a, b) = false) := Lib.hid (by unfold litB; rw [if_neg h12, if_neg h34])
  have e1 : (k == 1) = false := by simp; omega
  have e2 : (k == 2) = false := by simp; omega
  have e3 : (k == 3) = false := by simp; omega
  have e4 : (k == 4) = false := by simp; omega
  generalize litB _ = R at *
  clear hm hl h12 h34
  go_enter Tryz.func31, Tryz.ntmps31
  go_wp2
  go_ret
  exact ⟨ret_bool HR.out.symm, HB.out⟩
end Go.Proofs.YtbcoklbfebmpoaaGreatDoor

/-
  THE CONTRACT OF rules.May.
-/

namespace Go.Proofs.YtbcoklbfebmpoaaGreatDoor
open Go.RowKit
open Utf Term
set_option linter.unusedVariables false
set_option linter.unusedSimpArgs false

theorem PatAt.new (w : World) (p : PatD) (v : Value) (t : TypeId) : PatAt (w.alloc (.cells (ruleC p v) t)) w.heap.size p := by
  have key : ∀ j u, (ruleC p v)[j]? = some u → (w.alloc (.cells (ruleC p v) t)).cell? ⟨w.heap.size, j, none⟩ = some u := fun j u h => by
    rw [World.cell?_alloc_at _ _ _ _ rfl]
    exact h
  exact ⟨key 0 _ rfl, key 1 _ rfl, key 2 _ rfl, key 3 _ rfl, key 4 _ rfl, key 5 _ rfl, key 6 _ rfl, key 7 _ rfl, key 8 _ rfl, key 9 _ rfl, key 10 _ rfl, key 11 _ rfl⟩
theorem all_take_snoc {α : Type} (f : α → Bool) (l : List α) (k : Nat) (x : α) (h : l[k]? = some x) (ha : (l.take k).all f = true) : (l.take (k + 1)).all f = f x := by
  rw [List.take_add_one, h, List.all_append, ha]
  simp
theorem all_of_not {α : Type} (f : α → Bool) (l : List α) (k : Nat) (h : (l.take k).all f = false) : l.all f = false := by
  cases e : l.all f with
  | false => rfl
  | true =>
    rw [List.all_eq_true] at e
    rw [List.all_eq_false] at h
    obtain ⟨x, hx, hn⟩ := h
    exact absurd (e x (List.mem_of_mem_take hx)) hn

set_option maxRecDepth 100000 in
set_option maxHeartbeats 8000000 in
theorem ruMay_any (p : PatD) (v : Value) (ls : List LitD) (hp : VastP p) (hl : ∀ l ∈ ls, VastL l) (m : Int) (w : World) (hm : HasMax w m) (hv : BodyS w v ls) :
    Calls Tryz.prog 48 #[.agg (ruleC p v)] w fun e w' => e = .returned (.bool (ruleB (p, ls))) ∧ Below w.heap.size w w' := by
  obtain ⟨ptr, cap, rfl, hcap, hrow⟩ := hv.form
  have HB := Lib.hid (below_new w (.cells (ruleC p (.slice ptr ls.length cap)) 50))
  have HPn := Lib.hid (PatAt.new w p (.slice ptr ls.length cap) 50)
  have Hm := Lib.hid hm
  have HRow : Hid (∀ W, Below w.heap.size w W → 0 < ls.length → ∃ g o, ptr = some ⟨g, o, none⟩ ∧ RowL W g o ls) := Lib.hid (fun W k h => by
    obtain ⟨g, o, e, r⟩ := hrow h
    exact ⟨g, o, e, r.below k⟩)
  have HP := Lib.hid (fun W (h : HasMax W m) => ruPat_any p hp m W h)
  have HL := Lib.hid (fun l (h : l ∈ ls) W (hW : HasMax W m) => ruPart_any l (hl l h) m W hW)
  have HR : Hid (ruleB (p, ls) = (decide (ls.length ≤ 64) && (ls.all litB && patB p))) := Lib.hid rfl
  have HLs : Hid (∀ k x, ls[k]? = some x → x ∈ ls) := Lib.hid (fun k x h => List.mem_of_getElem? h)
  have HEx : Hid (∀ k, k < ls.length → ∃ x, ls[k]? = some x) := Lib.hid (fun k h => ⟨_, List.getElem?_eq_getElem h⟩)
  have HAll : Hid (ls.take ls.length = ls) := Lib.hid (List.take_length)
  obtain ⟨n, hn⟩ : ∃ n, n = ls.length := ⟨_, rfl⟩
  rw [← hn] at HB HPn HRow HR HEx HAll hcap ⊢
  clear hrow hm hv hp hl hn
  obtain ⟨R, hR⟩ : ∃ R, R = ruleB (p, ls) := ⟨_, rfl⟩
  rw [← hR] at HR ⊢
  clear hR
  by_cases h64 : n ≤ 64
  · have d1 : decide ((64 : Int) < (n : Int)) = false := by simp; omega
    rw [decide_eq_true h64, Bool.true_and] at HR
    go_enter Tryz.func48, Tryz.ntmps48
    go_wp2
    go_loopg [12] n (fun gg i wr => ∃ k : Nat, k ≤ n ∧ n - k ≤ gg ∧ i = .int .i64 k ∧ (ls.take k).all litB = true ∧ Below w.heap.size w wr ∧ PatAt wr w.heap.size p ∧ w.heap.size < wr.heap.size)
    case atStart => exact ⟨0, Nat.zero_le _, by omega, rfl, rfl, HB.out, HPn.out, by simp⟩
    case round =>
      obtain ⟨k, hk, hgg, rfl, hall, hBr, hPr, hsz⟩ := hrel
      have HBr := Lib.hid hBr
      have HPr := Lib.hid hPr
      have HAl := Lib.hid hall
      have Hmr := Lib.hid (cell_below hBr Hm.out)
      clear hBr hPr hall
      by_cases hlt : k < n
      · obtain ⟨x, hx⟩ := HEx.out k hlt
        obtain ⟨g, o, rfl, hr⟩ := HRow.out wr HBr.out (by omega)
        have hC := hr.range hx
        have HLx := Lib.hid (fun W (h : HasMax W m) => HL.out x (HLs.out k x hx) W h)
        have HTk := Lib.hid (all_take_snoc litB ls k x hx HAl.out)
        have HN := Lib.hid (all_of_not litB ls (k + 1))
        have hone := litC_one x
        have hlen : (litC x).toList.length = 21 := rfl
        have harr : litC x = (litC x).toList.toArray := rfl
        rw [harr] at HLx
        clear harr
        generalize (litC x).toList = C at *
        have HSt := Lib.hid (fun Z hz => stored_lit wr Z hz C hlen 37)
        have hsz21 : (Tryz.prog.info? 37).map (·.size) = some C.length := by rw [hlen]; kernel_rfl
        have hsz21' : (Tryz.prog.info? 37).map (·.size) = some C.toArray.size := by rw [List.size_toArray, hlen]; kernel_rfl
        have hth' : (wr.alloc (.cells (litC zLi) 37)).there wr.heap.size 0 C.toArray.size := by
          have := (HSt.out (litC zLi) rfl).1
          rwa [← hlen, ← List.size_toArray] at this
        have HC := Lib.hid hC
        have HO := Lib.hid hone
        have HS := Lib.hid hsz21
        have HS' := Lib.hid hsz21'
        have HT := Lib.hid hth'
        clear hx hr hC hone hsz21 hsz21' hth' hlen
        go_upto_region 6 with (first
          | (refine wpList_load_mid rfl 37 (.tmp 14) rfl g (o + k * 21) rfl C _ HC.out Tryz.underlying37 rfl HS.out ?_)
          | (refine wpList_store_mid rfl 37 (.tmp 4) (.tmp 15) rfl wr.heap.size 0 C.toArray rfl rfl HT.out HS'.out HO.out ?_))
        generalize hW : World.setCells (World.alloc wr (Obj.cells _ _)) _ _ _ = W2
        have hf : Stored wr W2 C := by rw [← hW]; exact (HSt.out _ rfl).2
        obtain ⟨hr2, hB2, hz2⟩ := hf
        have HR2 := Lib.hid hr2
        have HB2 := Lib.hid hB2
        have hzz : w.heap.size < W2.heap.size := by omega
        have Hm2 := Lib.hid (cell_below hB2 Hmr.out)
        clear hW hr2 hB2 HT HO HS' HC HSt hz2
        cases hx : litB x with
        | false =>
          rw [hx] at HLx HTk
          have HX : Hid (R = false) := Lib.hid (by rw [HR.out, HN.out HTk.out]; rfl)
          clear hx
          go_wp2_with (first
            | (refine wpList_load_mid rfl 37 (.tmp 4) rfl wr.heap.size 0 rfl C _ HR2.out Tryz.underlying37 rfl HS.out ?_)
            | (go_at_call 31; refine (HLx.out _ Hm2.out).mono ?_; rintro e w' ⟨rfl, hB⟩))
          go_ret
          exact ⟨ret_bool HX.out.symm, below_step (below_step HBr.out HB2.out) hB⟩
        | true =>
          rw [hx] at HLx HTk
          clear hx
          go_wp2_with (first
            | (refine wpList_load_mid rfl 37 (.tmp 4) rfl wr.heap.size 0 rfl C _ HR2.out Tryz.underlying37 rfl HS.out ?_)
            | (go_at_call 31; refine (HLx.out _ Hm2.out).mono ?_; rintro e w' ⟨rfl, hB⟩))
          go_roundg (n - (k + 1))
          case rel => exact ⟨k + 1, by omega, Nat.le_refl _, by go_num, HTk.out, below_step (below_step HBr.out HB2.out) hB, (HPr.out.below HB2.out).below hB, by have := hB.size; omega⟩
          case measure => omega
      · obtain rfl : k = n := by omega
        have HX : Hid (R = patB p) := Lib.hid (by rw [HR.out, ← HAll.out, HAl.out]; rfl)
        obtain ⟨q0, q1, q2, q3, q4, q5, q6, q7, q8, q9, q10, q11⟩ := HPr.out
        go_wp2_with (go_at_call 65; refine (HP.out _ Hmr.out).mono ?_; rintro e w' ⟨rfl, hB⟩)
        go_ret
        exact ⟨ret_bool HX.out.symm, below_step HBr.out hB⟩
  · have d1 : decide ((64 : Int) < (n : Int)) = true := by simp; omega
    rw [decide_eq_false h64, Bool.false_and] at HR
    go_enter Tryz.func48, Tryz.ntmps48
    go_wp2
    go_ret
    exact ⟨ret_bool HR.out.symm, HB.out⟩
end Go.Proofs.YtbcoklbfebmpoaaGreatDoor

