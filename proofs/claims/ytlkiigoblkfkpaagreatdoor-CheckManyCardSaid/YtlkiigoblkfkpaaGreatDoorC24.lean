/-
  WHAT THE PROOF STANDS ON, a part of it: EqT, RuD, RuMay.
-/
import Derived.Test.YtlkiigoblkfkpaaGreatDoorC9
import Derived.ChangeKeysEq
import Derived.Test.YtlkiigoblkfkpaaGreatDoorC23
import Derived.BigGuardPart
/-
  '==' OF STRINGS AND OF TERMS.
-/

namespace Go.Proofs.YtlkiigoblkfkpaaGreatDoor
open Go.RowKit
open Utf
set_option linter.unusedVariables false
set_option linter.unusedSimpArgs false
set_option maxRecDepth 100000

theorem bytes_toListT {s t : ByteArray} : s.toList = t.toList ↔ s = t := by
  constructor
  · intro h
    rw [ByteArray.toList_eq, ByteArray.toList_eq] at h
    exact ByteArray.ext (Array.toList_inj.1 h)
  · rintro rfl; rfl
theorem termT_eql (a b : TermD) (w : World) : (binOp .eql 35 (.agg #[.int .i64 a.1, .string a.2.1, .string a.2.2]) (.agg #[.int .i64 b.1, .string b.2.1, .string b.2.2])).run Tryz.prog w = .ok (.bool (decide (a = b))) w := by
  obtain ⟨k, t, x⟩ := a
  obtain ⟨k', t', x'⟩ := b
  go_simp
  simp only [bytes_toListT]
  by_cases h1 : k = k' <;> by_cases h2 : t = t' <;> by_cases h3 : x = x' <;> simp [h1, h2, h3]
end Go.Proofs.YtlkiigoblkfkpaaGreatDoor

/-
  SLOTS, PATTERNS, PARTS, RULES AS VALUES; '==' OF THEM.
-/

namespace Go.Proofs.YtlkiigoblkfkpaaGreatDoor
open Go.RowKit
open Utf Term
set_option linter.unusedVariables false
set_option linter.unusedSimpArgs false
set_option maxRecDepth 100000

theorem slot_eqIn (n : Nat) (a b : SlotD) (w : World) : (Op.equalIn (n + 3) 37 (.agg (slotC a)) (.agg (slotC b))).run Tryz.prog w = .ok (decide (a = b)) w := by
  obtain ⟨v, k, t, x⟩ := a
  obtain ⟨v', k', t', x'⟩ := b
  go_simp
  simp only [bytes_toListT, Prod.mk.injEq]
  by_cases h0 : v = v' <;> by_cases h1 : k = k' <;> by_cases h2 : t = t' <;> by_cases h3 : x = x' <;> simp [h0, h1, h2, h3]
theorem slot_eql (a b : SlotD) (w : World) : (binOp .eql 37 (.agg (slotC a)) (.agg (slotC b))).run Tryz.prog w = .ok (.bool (decide (a = b))) w := by
  rw [run_eql_struct]
  have := slot_eqIn 9997 a b w
  rw [this]
  rfl
theorem parts0 (p : PatD) (w : World) : (part 37 (patC p) 0).run Tryz.prog w = .ok (.agg (slotC p.1)) w := by kernel_rfl
theorem parts1 (p : PatD) (w : World) : (part 37 (patC p) 4).run Tryz.prog w = .ok (.agg (slotC p.2.1)) w := by kernel_rfl
theorem parts2 (p : PatD) (w : World) : (part 37 (patC p) 8).run Tryz.prog w = .ok (.agg (slotC p.2.2)) w := by kernel_rfl
theorem pat_eqIn (n : Nat) (p q : PatD) (w : World) : (Op.equalIn (n + 4) 40 (.agg (patC p)) (.agg (patC q))).run Tryz.prog w = .ok (decide (p = q)) w := by
  obtain ⟨i, hi⟩ : ∃ i, Tryz.prog.info? 37 = some i := Option.isSome_iff_exists.1 (by kernel_rfl)
  have hc : Tryz.prog.cellsOf 37 = 4 := by kernel_rfl
  have hr : List.range 3 = [0, 1, 2] := rfl
  rw [run_equalIn_array (w := w) (n + 3) _ _ Tryz.underlying40 hi, hc, hr]
  simp only [Op.eqItems, Sem.run_bind, Nat.zero_mul, Nat.one_mul, Nat.reduceMul, parts0, parts1, parts2, Result.andThen_ok, slot_eqIn]
  obtain ⟨a, b, c⟩ := p
  obtain ⟨a', b', c'⟩ := q
  by_cases h1 : a = a'
  · by_cases h2 : b = b'
    · by_cases h3 : c = c'
      · simp [h1, h2, h3, parts1, parts2, slot_eqIn]
      · simp [h1, h2, h3, parts1, parts2, slot_eqIn]
    · simp [h1, h2, parts1, parts2, slot_eqIn]
  · simp [h1]
theorem pat_eql (p q : PatD) (w : World) : (binOp .eql 40 (.agg (patC p)) (.agg (patC q))).run Tryz.prog w = .ok (.bool (decide (p = q))) w := by
  rw [run_eql_struct]
  rw [pat_eqIn 9996 p q w]
  rfl
theorem litp0 (l : LitD) (w : World) : (part 41 (litC l) 0).run Tryz.prog w = .ok (.int .i64 l.1) w := by kernel_rfl
theorem litp1 (l : LitD) (w : World) : (part 40 (litC l) 1).run Tryz.prog w = .ok (.agg (patC l.2.1)) w := by kernel_rfl
theorem litp2 (l : LitD) (w : World) : (part 37 (litC l) 13).run Tryz.prog w = .ok (.agg (slotC l.2.2.1)) w := by kernel_rfl
theorem litp3 (l : LitD) (w : World) : (part 37 (litC l) 17).run Tryz.prog w = .ok (.agg (slotC l.2.2.2)) w := by kernel_rfl
theorem lit_eql (p q : LitD) (w : World) : (binOp .eql 43 (.agg (litC p)) (.agg (litC q))).run Tryz.prog w = .ok (.bool (decide (p = q))) w := by
  rw [run_eql_struct]
  have h0 : (Op.equalIn 9999 41 (.int .i64 p.1) (.int .i64 q.1)).run Tryz.prog w = .ok (decide (p.1 = q.1)) w := by
    go_simp
    rw [Bool.eq_iff_iff]; simp
  have h1 := pat_eqIn 9995 p.2.1 q.2.1 w
  have h2 := slot_eqIn 9996 p.2.2.1 q.2.2.1 w
  have h3 := slot_eqIn 9996 p.2.2.2 q.2.2.2 w
  have hs : Tryz.prog.stoodInHeld 43 = false := by kernel_rfl
  have hp : (program).run Tryz.prog w = .ok Tryz.prog w := rfl
  rw [Op.equalIn]
  simp only [Sem.run_bind, run_underlying Tryz.underlying43, Result.andThen_ok, hp, hs]
  have a0 := litp0 p w
  have a1 := litp1 p w
  have a2 := litp2 p w
  have a3 := litp3 p w
  have b0 := litp0 q w
  have b1 := litp1 q w
  have b2 := litp2 q w
  have b3 := litp3 q w
  generalize litC p = P at *
  generalize litC q = Q at *
  obtain ⟨k, pt, A, B⟩ := p
  obtain ⟨k', pt', A', B'⟩ := q
  simp only [Prod.mk.injEq] at *
  have h1 : (Op.equalIn 9999 40 (.agg (patC pt)) (.agg (patC pt'))).run Tryz.prog w = .ok (decide (pt = pt')) w := h1
  have h2 : (Op.equalIn 9999 37 (.agg (slotC A)) (.agg (slotC A'))).run Tryz.prog w = .ok (decide (A = A')) w := h2
  have h3 : (Op.equalIn 9999 37 (.agg (slotC B)) (.agg (slotC B'))).run Tryz.prog w = .ok (decide (B = B')) w := h3
  generalize patC pt = u1 at *
  generalize patC pt' = u1' at *
  generalize slotC A = u2 at *
  generalize slotC A' = u2' at *
  generalize slotC B = u3 at *
  generalize slotC B' = u3' at *
  by_cases e0 : k = k'
  · rw [decide_eq_true e0] at h0
    by_cases e1 : pt = pt'
    · rw [decide_eq_true e1] at h1
      by_cases e2 : A = A'
      · rw [decide_eq_true e2] at h2
        by_cases e3 : B = B'
        · rw [decide_eq_true e3] at h3
          have hd : decide (k = k' ∧ pt = pt' ∧ A = A' ∧ B = B') = true := decide_eq_true ⟨e0, e1, e2, e3⟩
          rw [hd]
          clear e0 e1 e2 e3
          simp [a0, a1, a2, a3, b0, b1, b2, b3, h0, h1, h2, h3]
        · rw [decide_eq_false e3] at h3
          have hd : decide (k = k' ∧ pt = pt' ∧ A = A' ∧ B = B') = false := decide_eq_false (fun h => e3 h.2.2.2)
          rw [hd]
          clear e0 e1 e2 e3
          simp [a0, a1, a2, a3, b0, b1, b2, b3, h0, h1, h2, h3]
      · rw [decide_eq_false e2] at h2
        have hd : decide (k = k' ∧ pt = pt' ∧ A = A' ∧ B = B') = false := decide_eq_false (fun h => e2 h.2.2.1)
        rw [hd]
        clear e0 e1 e2
        simp [a0, a1, a2, b0, b1, b2, h0, h1, h2]
    · rw [decide_eq_false e1] at h1
      have hd : decide (k = k' ∧ pt = pt' ∧ A = A' ∧ B = B') = false := decide_eq_false (fun h => e1 h.2.1)
      rw [hd]
      clear e0 e1
      simp [a0, a1, b0, b1, h0, h1]
  · rw [decide_eq_false e0] at h0
    have hd : decide (k = k' ∧ pt = pt' ∧ A = A' ∧ B = B') = false := decide_eq_false (fun h => e0 h.1)
    rw [hd]
    clear e0
    simp [a0, b0, h0]

theorem neq_of_eql {t : TypeId} {x y : Value} {r : Bool} {w : World} {xs ys : Array Value} (hx : x = .agg xs) (hy : y = .agg ys) (h : (binOp .eql t x y).run Tryz.prog w = .ok (.bool r) w) : (binOp .neq t x y).run Tryz.prog w = .ok (.bool (!r)) w := by
  subst hx hy
  rw [run_neq_struct]
  rw [run_eql_struct] at h
  generalize Sem.run Tryz.prog (Op.equalIn 10000 t (.agg xs) (.agg ys)) w = R at h ⊢
  cases R with
  | ok b w' =>
    simp only [Result.andThen_ok, Result.ok.injEq, Value.bool.injEq] at h ⊢
    exact ⟨by rw [h.1], h.2⟩
  | _ => simp [Result.andThen] at h
theorem lit_neq (p q : LitD) (w : World) : (binOp .neq 43 (.agg (litC p)) (.agg (litC q))).run Tryz.prog w = .ok (.bool (!decide (p = q))) w := neq_of_eql rfl rfl (lit_eql p q w)
end Go.Proofs.YtlkiigoblkfkpaaGreatDoor

/-
  CONTRACTS OF rules.isName, MaySlot, mayPattern, mayPart.
-/

namespace Go.Proofs.YtlkiigoblkfkpaaGreatDoor
open Go.RowKit
open Utf Term
set_option linter.unusedVariables false
set_option linter.unusedSimpArgs false

def VastS (s : ByteArray) : Prop := s.size ≤ 9223372036854775807
def VastSl (s : SlotD) : Prop := VastS s.1 ∧ VastS s.2.2.1 ∧ VastS s.2.2.2
def VastP (p : PatD) : Prop := VastSl p.1 ∧ VastSl p.2.1 ∧ VastSl p.2.2
def VastL (l : LitD) : Prop := VastP l.2.1 ∧ VastSl l.2.2.1 ∧ VastSl l.2.2.2
abbrev HasMax (W : World) (m : Int) : Prop := W.cell? ⟨0, 0, none⟩ = some (.int .i64 m)

set_option maxRecDepth 100000 in
set_option maxHeartbeats 2000000 in
theorem ruName_any (v : ByteArray) (hv : VastS v) (m : Int) (w : World) (hm : HasMax w m) :
    Calls Tryz.prog 57 #[.string v] w fun e w' => e = .returned (.bool (nameB v)) ∧ Below w.heap.size w w' := by
  have HM := Lib.hid (fun W (h : HasMax W m) => may_vast 2 v ⟨#[]⟩ hv (by decide) m W h)
  have Hm := Lib.hid hm
  have HN : Hid (nameB v = (decide (v.size ≤ 32) && mayS 2 v ⟨#[]⟩)) := Lib.hid rfl
  unfold VastS at hv
  generalize nameB v = N at *
  generalize mayS 2 v ⟨#[]⟩ = M at *
  clear hm
  by_cases h : v.size ≤ 32
  · have d : decide ((v.size : Int) ≤ 32) = true := by simp; omega
    rw [decide_eq_true h, Bool.true_and] at HN
    clear h
    go_enter Tryz.func57, Tryz.ntmps57
    go_wp2_with (go_at_call 58; refine (HM.out _ Hm.out).mono ?_; rintro e w' ⟨rfl, hB⟩)
    go_ret
    exact ⟨ret_bool HN.out.symm, hB⟩
  · have d : decide ((v.size : Int) ≤ 32) = false := by simp; omega
    rw [decide_eq_false h, Bool.false_and] at HN
    clear h
    go_enter Tryz.func57, Tryz.ntmps57
    go_wp2_with fail
    go_ret
    exact ⟨ret_bool HN.out.symm, Below.refl _ _⟩

theorem bcellR {W w1 : World} (hb : Below W.heap.size W w1) : (∀ b o, b < W.heap.size → w1.cell? ⟨b, o, none⟩ = W.cell? ⟨b, o, none⟩) ∧ (∀ b o, b < W.heap.size → w1.frozen? ⟨b, o, none⟩ = W.frozen? ⟨b, o, none⟩) :=
  ⟨fun b o h => hb.cell (p := ⟨b, o, none⟩) h, fun b o h => hb.frozen (p := ⟨b, o, none⟩) h⟩
theorem size_of_alloc {w W1 : World} {o : Obj} (h : Below (w.alloc o).heap.size (w.alloc o) W1) : w.heap.size < W1.heap.size := by
  have := h.size
  rw [World.size_alloc] at this
  omega
theorem empty_size {v : ByteArray} (h : v.size = 0) : v = ⟨#[]⟩ := by
  obtain ⟨d⟩ := v
  have : d = #[] := Array.eq_empty_of_size_eq_zero h
  rw [this]
theorem string_neq_empty {v : ByteArray} (h : v.size ≠ 0) : v.toList.isEmpty = false := by
  cases hv : v.toList.isEmpty with
  | false => rfl
  | true =>
    exfalso
    rw [List.isEmpty_iff, ByteArray.toList_eq] at hv
    have : v.data.size = 0 := by rw [← Array.length_toList, hv]; rfl
    exact h this

set_option maxRecDepth 100000 in
set_option maxHeartbeats 2000000 in
theorem ruSlot_any (s : SlotD) (hs : VastSl s) (m : Int) (w : World) (hm : HasMax w m) :
    Calls Tryz.prog 48 #[.agg (slotC s)] w fun e w' => e = .returned (.bool (slotB s)) ∧ Below w.heap.size w w' := by
  obtain ⟨v, k, t, x⟩ := s
  obtain ⟨hv, ht, hx⟩ := hs
  have HB := Lib.hid (below_new w (.cells (slotC (v, k, t, x)) 37))
  have Hm := Lib.hid (cell_below HB.out hm)
  clear hm
  by_cases h0 : v.size = 0
  · have HR : Hid (slotB (v, k, t, x) = mayS k t x) := Lib.hid (by unfold slotB; rw [if_pos h0]; rfl)
    obtain rfl := empty_size h0
    have HM := Lib.hid (fun W (h : HasMax W m) => may_vast k t x ht hx m W h)
    generalize slotB _ = R at *
    generalize mayS k t x = M at *
    clear h0
    go_enter Tryz.func48, Tryz.ntmps48
    go_wp2_with (go_at_call 58; refine (HM.out _ Hm.out).mono ?_; rintro e w' ⟨rfl, hB⟩)
    go_ret
    exact ⟨ret_bool HR.out.symm, below_step HB.out hB⟩
  · have HR : Hid (slotB (v, k, t, x) = (nameB v && decide ((k, t, x) = zTe))) := Lib.hid (by unfold slotB; rw [if_neg h0])
    have hne := string_neq_empty h0
    have HQ : Hid (∀ W, (binOp .eql 35 (.agg #[.int .i64 k, .string t, .string x]) (.agg #[.int .i64 0, .string ⟨#[]⟩, .string ⟨#[]⟩])).run Tryz.prog W = .ok (.bool (decide ((k, t, x) = zTe))) W) := Lib.hid (fun W => termT_eql (k, t, x) zTe W)
    have HN := Lib.hid (fun W (h : HasMax W m) => ruName_any v hv m W h)
    generalize slotB _ = R at *
    generalize decide ((k, t, x) = zTe) = D at *
    clear h0
    cases hn : nameB v with
    | false =>
      rw [hn] at HR HN
      rw [Bool.false_and] at HR
      clear hn HQ
      go_enter Tryz.func48, Tryz.ntmps48
      go_wp2_with (go_at_call 57; refine (HN.out _ Hm.out).mono ?_; rintro e w' ⟨rfl, hB⟩)
      go_ret
      exact ⟨ret_bool HR.out.symm, below_step HB.out hB⟩
    | true =>
      rw [hn] at HR HN
      rw [Bool.true_and] at HR
      clear hn
      have hq := HQ.out
      go_enter Tryz.func48, Tryz.ntmps48
      go_wp2_with (go_at_call 57; refine (HN.out _ Hm.out).mono ?_; rintro e w' ⟨rfl, hB⟩; obtain ⟨hc, hf⟩ := bcellR hB)
      go_ret
      exact ⟨ret_bool HR.out.symm, below_step HB.out hB⟩

set_option maxRecDepth 100000 in
set_option maxHeartbeats 2000000 in
theorem ruPat_any (p : PatD) (hp : VastP p) (m : Int) (w : World) (hm : HasMax w m) :
    Calls Tryz.prog 35 #[.agg (patC p)] w fun e w' => e = .returned (.bool (patB p)) ∧ Below w.heap.size w w' := by
  obtain ⟨a, b, c⟩ := p
  obtain ⟨ha, hb, hc⟩ := hp
  have HB := Lib.hid (below_new w (.cells (patC (a, b, c)) 40))
  have Hm := Lib.hid (cell_below HB.out hm)
  have HA := Lib.hid (fun W (h : HasMax W m) => ruSlot_any a ha m W h)
  have HBb := Lib.hid (fun W (h : HasMax W m) => ruSlot_any b hb m W h)
  have HC := Lib.hid (fun W (h : HasMax W m) => ruSlot_any c hc m W h)
  have HR : Hid (patB (a, b, c) = (slotB a && slotB b && slotB c)) := Lib.hid rfl
  generalize patB _ = R at *
  clear hm ha hb hc
  cases h1 : slotB a with
  | false =>
    rw [h1] at HA HR
    rw [Bool.false_and, Bool.false_and] at HR
    clear h1 HBb HC
    go_enter Tryz.func35, Tryz.ntmps35
    go_wp2_with (go_at_call 48; refine (HA.out _ Hm.out).mono ?_; rintro e w' ⟨rfl, hB⟩)
    go_ret
    exact ⟨ret_bool HR.out.symm, below_step HB.out hB⟩
  | true =>
    rw [h1] at HA HR
    rw [Bool.true_and] at HR
    clear h1
    cases h2 : slotB b with
    | false =>
      rw [h2] at HBb HR
      rw [Bool.false_and] at HR
      clear h2 HC
      go_enter Tryz.func35, Tryz.ntmps35
      go_wp2_with (go_at_call 48; (with_reducible refine (HA.out _ Hm.out).mono ?_); rintro e w1 ⟨rfl, hB1⟩; obtain ⟨hc1, hf1⟩ := bcellR hB1; have Hm1 := Lib.hid (cell_below hB1 Hm.out); have HB1 := Lib.hid (below_step HB.out hB1))
      go_wp2_with (go_at_call 48; (with_reducible refine (HBb.out _ Hm1.out).mono ?_); rintro e w2 ⟨rfl, hB2⟩)
      go_ret
      exact ⟨ret_bool HR.out.symm, below_step HB1.out hB2⟩
    | true =>
      rw [h2] at HBb HR
      rw [Bool.true_and] at HR
      clear h2
      go_enter Tryz.func35, Tryz.ntmps35
      go_wp2_with (go_at_call 48; (with_reducible refine (HA.out _ Hm.out).mono ?_); rintro e w1 ⟨rfl, hB1⟩; obtain ⟨hc1, hf1⟩ := bcellR hB1; have Hm1 := Lib.hid (cell_below hB1 Hm.out); have HB1 := Lib.hid (below_step HB.out hB1); have hz1 := (size_of_alloc hB1))
      go_wp2_with (go_at_call 48; (with_reducible refine (HBb.out _ Hm1.out).mono ?_); rintro e w2 ⟨rfl, hB2⟩; obtain ⟨hc2, hf2⟩ := bcellR hB2; have Hm2 := Lib.hid (cell_below hB2 Hm1.out); have HB2 := Lib.hid (below_step HB1.out hB2))
      go_wp2_with (go_at_call 48; (with_reducible refine (HC.out _ Hm2.out).mono ?_); rintro e w3 ⟨rfl, hB3⟩)
      go_ret
      exact ⟨ret_bool HR.out.symm, below_step HB2.out hB3⟩

theorem below_new2 (w : World) (o o' : Obj) : Below w.heap.size w ((w.alloc o).alloc o') := below_step (below_new _ _) (below_new _ _)
theorem size_of_alloc2 {w W1 : World} {o o' : Obj} (h : Below ((w.alloc o).alloc o').heap.size ((w.alloc o).alloc o') W1) : w.heap.size + 1 < W1.heap.size := by
  have := h.size
  rw [World.size_alloc, World.size_alloc] at this
  omega
set_option maxRecDepth 100000 in
set_option maxHeartbeats 8000000 in
theorem ruPart_pat (k : Int) (hk : k = 1 ∨ k = 2) (p : PatD) (a b : SlotD) (hp : VastP p) (m : Int) (w : World) (hm : HasMax w m) :
    Calls Tryz.prog 34 #[.agg (litC (k, p, a, b))] w fun e w' => e = .returned (.bool (litB (k, p, a, b))) ∧ Below w.heap.size w w' := by
  have HB := Lib.hid (below_new2 w (.cells (litC (k, p, a, b)) 43) (.cells (litC zLi) 43))
  have Hm := Lib.hid (cell_below HB.out hm)
  have HP := Lib.hid (fun W (h : HasMax W m) => ruPat_any p hp m W h)
  have HQ1 : Hid (∀ W, (binOp .eql 37 (.agg (slotC a)) (.agg #[.string ⟨#[]⟩, .int .i64 0, .string ⟨#[]⟩, .string ⟨#[]⟩])).run Tryz.prog W = .ok (.bool (decide (a = zSl))) W) := Lib.hid (fun W => slot_eql a zSl W)
  have HQ2 : Hid (∀ W, (binOp .eql 37 (.agg (slotC b)) (.agg #[.string ⟨#[]⟩, .int .i64 0, .string ⟨#[]⟩, .string ⟨#[]⟩])).run Tryz.prog W = .ok (.bool (decide (b = zSl))) W) := Lib.hid (fun W => slot_eql b zSl W)
  have HR : Hid (litB (k, p, a, b) = (patB p && decide (a = zSl) && decide (b = zSl))) := Lib.hid (by unfold litB; rw [if_pos hk])
  generalize litB _ = R at *
  generalize decide (a = zSl) = D1 at *
  generalize decide (b = zSl) = D2 at *
  generalize patB p = D0 at *
  clear hm hp
  obtain ⟨⟨a0, a1, a2, a3⟩, ⟨b0, b1, b2, b3⟩, ⟨c0, c1, c2, c3⟩⟩ := p
  obtain ⟨x0, x1, x2, x3⟩ := a
  obtain ⟨y0, y1, y2, y3⟩ := b
  have hq1 := HQ1.out
  have hq2 := HQ2.out
  clear HQ1 HQ2
  cases D0 with
  | false =>
    rw [Bool.false_and, Bool.false_and] at HR
    clear hq1 hq2
    rcases hk with rfl | rfl
    all_goals
      go_enter Tryz.func34, Tryz.ntmps34
      go_wp2_with (go_at_call 35; refine (HP.out _ Hm.out).mono ?_; rintro e w' ⟨rfl, hB⟩)
      go_ret
      exact ⟨ret_bool HR.out.symm, below_step HB.out hB⟩
  | true =>
    rw [Bool.true_and] at HR
    cases D1 with
    | false =>
      rw [Bool.false_and] at HR
      clear hq2
      rcases hk with rfl | rfl
      all_goals
        go_enter Tryz.func34, Tryz.ntmps34
        go_wp2_with (go_at_call 35; refine (HP.out _ Hm.out).mono ?_; rintro e w' ⟨rfl, hB⟩; obtain ⟨hc1, hf1⟩ := bcellR hB)
        go_ret
        exact ⟨ret_bool HR.out.symm, below_step HB.out hB⟩
    | true =>
      rw [Bool.true_and] at HR
      rcases hk with rfl | rfl
      all_goals
        go_enter Tryz.func34, Tryz.ntmps34
        go_wp2_with (go_at_call 35; refine (HP.out _ Hm.out).mono ?_; rintro e w' ⟨rfl, hB⟩; obtain ⟨hc1, hf1⟩ := bcellR hB)
        go_ret
        exact ⟨ret_bool HR.out.symm, below_step HB.out hB⟩

set_option maxRecDepth 100000 in
set_option maxHeartbeats 8000000 in
theorem ruPart_cond (k : Int) (hk : k = 3 ∨ k = 4) (p : PatD) (a b : SlotD) (ha : VastSl a) (hb : VastSl b) (m : Int) (w : World) (hm : HasMax w m) :
    Calls Tryz.prog 34 #[.agg (litC (k, p, a, b))] w fun e w' => e = .returned (.bool (litB (k, p, a, b))) ∧ Below w.heap.size w w' := by
  have HB := Lib.hid (below_new2 w (.cells (litC (k, p, a, b)) 43) (.cells (litC zLi) 43))
  have Hm := Lib.hid (cell_below HB.out hm)
  have HA := Lib.hid (fun W (h : HasMax W m) => ruSlot_any a ha m W h)
  have HBb := Lib.hid (fun W (h : HasMax W m) => ruSlot_any b hb m W h)
  have HQ : Hid (∀ W, (binOp .eql 40 (.agg (patC p)) (.agg #[.string ⟨#[]⟩, .int .i64 0, .string ⟨#[]⟩, .string ⟨#[]⟩, .string ⟨#[]⟩, .int .i64 0, .string ⟨#[]⟩, .string ⟨#[]⟩, .string ⟨#[]⟩, .int .i64 0, .string ⟨#[]⟩, .string ⟨#[]⟩])).run Tryz.prog W = .ok (.bool (decide (p = zPa))) W) := Lib.hid (fun W => pat_eql p zPa W)
  have HR : Hid (litB (k, p, a, b) = (slotB a && slotB b && decide (p = zPa))) := Lib.hid (by unfold litB; rw [if_neg (by omega), if_pos hk])
  generalize litB _ = R at *
  generalize decide (p = zPa) = D2 at *
  generalize slotB a = D0 at *
  generalize slotB b = D1 at *
  clear hm ha hb
  obtain ⟨⟨a0, a1, a2, a3⟩, ⟨b0, b1, b2, b3⟩, ⟨c0, c1, c2, c3⟩⟩ := p
  have hq := HQ.out
  clear HQ
  cases D0 with
  | false =>
    rw [Bool.false_and, Bool.false_and] at HR
    clear hq
    rcases hk with rfl | rfl
    all_goals
      go_enter Tryz.func34, Tryz.ntmps34
      go_wp2_with (go_at_call 48; refine (HA.out _ Hm.out).mono ?_; rintro e w' ⟨rfl, hB⟩)
      go_ret
      exact ⟨ret_bool HR.out.symm, below_step HB.out hB⟩
  | true =>
    rw [Bool.true_and] at HR
    cases D1 with
    | false =>
      rw [Bool.false_and] at HR
      clear hq
      rcases hk with rfl | rfl
      all_goals
        go_enter Tryz.func34, Tryz.ntmps34
        go_wp2_with (go_at_call 48; (with_reducible refine (HA.out _ Hm.out).mono ?_); rintro e w1 ⟨rfl, hB1⟩; obtain ⟨hc1, hf1⟩ := bcellR hB1; have Hm1 := Lib.hid (cell_below hB1 Hm.out); have HB1 := Lib.hid (below_step HB.out hB1))
        go_wp2_with (go_at_call 48; (with_reducible refine (HBb.out _ Hm1.out).mono ?_); rintro e w2 ⟨rfl, hB2⟩)
        go_ret
        exact ⟨ret_bool HR.out.symm, below_step HB1.out hB2⟩
    | true =>
      rw [Bool.true_and] at HR
      rcases hk with rfl | rfl
      all_goals
        go_enter Tryz.func34, Tryz.ntmps34
        go_wp2_with (go_at_call 48; (with_reducible refine (HA.out _ Hm.out).mono ?_); rintro e w1 ⟨rfl, hB1⟩; obtain ⟨hc1, hf1⟩ := bcellR hB1; have Hm1 := Lib.hid (cell_below hB1 Hm.out); have HB1 := Lib.hid (below_step HB.out hB1); have hz1 := size_of_alloc2 hB1; have hz0 : w.heap.size < w1.heap.size := (by omega))
        go_wp2_with (go_at_call 48; (with_reducible refine (HBb.out _ Hm1.out).mono ?_); rintro e w2 ⟨rfl, hB2⟩; obtain ⟨hc2, hf2⟩ := bcellR hB2)
        go_ret
        exact ⟨ret_bool HR.out.symm, below_step HB1.out hB2⟩

set_option maxRecDepth 100000 in
set_option maxHeartbeats 8000000 in
theorem ruPart_any (l : LitD) (hl : VastL l) (m : Int) (w : World) (hm : HasMax w m) :
    Calls Tryz.prog 34 #[.agg (litC l)] w fun e w' => e = .returned (.bool (litB l)) ∧ Below w.heap.size w w' := by
  obtain ⟨k, p, a, b⟩ := l
  by_cases h12 : k = 1 ∨ k = 2
  · exact ruPart_pat k h12 p a b hl.1 m w hm
  by_cases h34 : k = 3 ∨ k = 4
  · exact ruPart_cond k h34 p a b hl.2.1 hl.2.2 m w hm
  have HB := Lib.hid (below_new2 w (.cells (litC (k, p, a, b)) 43) (.cells (litC zLi) 43))
  have HR : Hid (litB (k, p, a, b) = false) := Lib.hid (by unfold litB; rw [if_neg h12, if_neg h34])
  have e1 : (k == 1) = false := by simp; omega
  have e2 : (k == 2) = false := by simp; omega
  have e3 : (k == 3) = false := by simp; omega
  have e4 : (k == 4) = false := by simp; omega
  generalize litB _ = R at *
  clear hm hl h12 h34
  go_enter Tryz.func34, Tryz.ntmps34
  go_wp2
  go_ret
  exact ⟨ret_bool HR.out.symm, HB.out⟩
end Go.Proofs.YtlkiigoblkfkpaaGreatDoor

