/-
  WHAT THE PROOF STANDS ON, a part of it: CkVals, CkSlots.
-/
import Derived.Test.YtlkiigoblkfkpaaGreatDoorC29
import Derived.Test.YtlkiigoblkfkpaaGreatDoorC6
import Derived.Shelf.Abstract
import Derived.Shelf.RegionOpen
import Derived.OwnWalkIn
import Derived.TacticsInMore
import Derived.LoopNIn
import Derived.LoopIn
import Derived.Sort.CutIn
import Derived.Stop.RegionWithIn
/-
  CONTRACT OF slices.Values AT RULES, as an iterator.
-/

namespace Go.Proofs.YtlkiigoblkfkpaaGreatDoor
open Go.RowKit Go.Shelf
set_option linter.unusedVariables false
set_option linter.unusedSimpArgs false
attribute [local go_sem] Oper.semAt_some

abbrev SlD := Option Addr × Nat × Nat
abbrev slV (s : SlD) : Value := .slice s.1 s.2.1 s.2.2
abbrev RvD := PatD × SlD
abbrev encU13 (x : RvD) : Array Value := #[.agg (ruleC x.1 (slV x.2))]
def nextRv (L : List RvD) (ip : List RvD) (x : RvD) (ip' : List RvD) : Prop := ip' = ip ++ [x] ∧ ip ++ [x] <+: L
abbrev TRv (Q : World → Prop) : Unit → List RvD → (Nat → Prop) → World → Prop := fun _ _ _ W => Q W
set_option maxRecDepth 100000 in
theorem ckValues_calls (ao : Option Addr) (len cap : Nat) (w : World) : Calls Tryz.prog 26 #[.slice ao len cap] w fun e w' =>
    e = .returned (.func (.func 40) #[] #[.pointer (some ⟨w.heap.size, 0, none⟩)]) ∧ w' = w.alloc (.cells #[.slice ao len cap] 22) := by
  go_enter Tryz.func26, Tryz.ntmps26
  go_wp2
  go_ret
  exact ⟨rfl, rfl⟩
/-- The slice in the box, and its rules. -/
def ValsRv (b : Nat) (ao : Option Addr) (len cap : Nat) (L : List RvD) (W : World) : Prop :=
  W.cell? ⟨b, 0, none⟩ = some (.slice ao len cap) ∧ len = L.length ∧ (0 < len → ∃ g o, ao = some ⟨g, o, none⟩ ∧ ∀ (j : Nat) (x : RvD), L[j]? = some x → RuleAt W g (o + j * 13) x.1 (slV x.2))
theorem ValsRv.below {b : Nat} {ao : Option Addr} {len cap : Nat} {L : List RvD} {W U : World} (h : ValsRv b ao len cap L W) (k : Below W.heap.size W U) : ValsRv b ao len cap L U := by
  obtain ⟨h1, h2, h3⟩ := h
  refine ⟨(k.cell (p := ⟨b, 0, none⟩) (World.block_lt_of_cell? _ _ h1)).trans h1, h2, fun h0 => ?_⟩
  obtain ⟨g, o, e, hc⟩ := h3 h0
  exact ⟨g, o, e, fun j x hx => (hc j x hx).below k⟩
theorem take_nextR {L : List RvD} {k : Nat} {m : RvD} (h : L[k]? = some m) : L.take k ++ [m] = L.take (k + 1) := by
  rw [List.take_add_one, h]
  rfl
set_option maxRecDepth 100000 in
set_option maxHeartbeats 4000000 in
theorem ckValues_seq (n : Nat) (hn : 1 ≤ n) (b : Nat) (ao : Option Addr) (len cap : Nat) (L : List RvD) (hl : L.length ≤ 1000000000) (S0 Loc : Nat → Prop) (w : World) :
    SeqT Fence.wide n Tryz.prog 40 #[.pointer (some ⟨b, 0, none⟩)] encU13 (TRv (ValsRv b ao len cap L)) (nextRv L) (fun ip => ip = L) () [] S0 Loc w := by
  intro l J Jx W hW hJ hJx hY h0 hT0
  refine callsIn_of_wp Tryz.func40 rfl trivial ?_ rfl
  simp only [Tryz.ntmps40, List.size_toArray, List.length_cons, List.length_nil, Nat.reduceAdd, Nat.reduceSub, Array.replicate_succ, Array.replicate_zero, List.push_toArray, List.append_toArray, List.nil_append, List.cons_append]
  obtain ⟨q1, q2, q3⟩ := hT0
  have HY := Lib.hid hY
  have HQ : Hid (ValsRv b ao len cap L W) := Lib.hid ⟨q1, q2, q3⟩
  have HL : Hid (len = L.length) := Lib.hid q2
  clear hY q2 q3
  gi_wp2
  gi_loopw [7] (fun i wr => ∃ (k : Nat) (S : Nat → Prop), k ≤ len ∧ i = .int .i64 (k : Int) ∧ J (L.take k) S wr ∧ ValsRv b ao len cap L wr)
    (fun i _ => len - (intOf i).toNat)
  case atStart => exact ⟨0, S0, Nat.zero_le _, rfl, h0, HQ.out⟩
  case round =>
    obtain ⟨k, S, hk, rfl, hJs, hq⟩ := hrel
    by_cases hlt : k < len
    · obtain ⟨g, o, rfl, hcs⟩ := hq.2.2 (by omega)
      obtain ⟨m, hm⟩ : ∃ m, L[k]? = some m := ⟨_, List.getElem?_eq_getElem (by rw [← HL.out]; exact hlt)⟩
      have hc := hcs k m hm
      have hTn := take_nextR hm
      have hpre : L.take k ++ [m] <+: L := by rw [hTn]; exact List.take_prefix _ _
      obtain ⟨U, hU⟩ : ∃ U, U = wr.alloc (.cells (ruleC m.1 (slV m.2)) 46) := ⟨_, rfl⟩
      have hbu := (Below.refl wr.heap.size wr).alloc (Nat.le_refl _) (.cells (ruleC m.1 (slV m.2)) 46)
      have hJU := hJ.alloc (.cells (ruleC m.1 (slV m.2)) 46) hJs
      have d2 := heap_alloc_new wr (.cells (ruleC m.1 (slV m.2)) 46)
      rw [← hU] at hbu hJU d2
      obtain ⟨fn, tmps, assign, body, hy, hR⟩ := HY.out () (L.take k) m (L.take (k + 1)) S U hJU (hq.below hbu) ⟨hTn.symm, hpre⟩
      obtain ⟨n1, hn1⟩ : ∃ n1, n1 = wr.heap.size := ⟨_, rfl⟩
      rw [← hn1] at d2
      have hat : RuleAt U n1 0 m.1 (slV m.2) := by
        refine ⟨cell_in d2 rfl, cell_in d2 rfl, cell_in d2 rfl, cell_in d2 rfl, cell_in d2 rfl, cell_in d2 rfl, cell_in d2 rfl, cell_in d2 rfl, cell_in d2 rfl, cell_in d2 rfl, cell_in d2 rfl, cell_in d2 rfl, cell_in d2 rfl⟩
      obtain ⟨⟨⟨a0, a1, a2, a3⟩, ⟨b0, b1, b2, b3⟩, ⟨c0, c1, c2, c3⟩⟩, ⟨va, vn, vc⟩⟩ := m
      change (Instr.yield l #[Value.agg #[.string a0, .int .i64 a1, .string a2, .string a3, .string b0, .int .i64 b1, .string b2, .string b3, .string c0, .int .i64 c1, .string c2, .string c3, .slice va vn vc]]).run Tryz.prog U = _ at hy
      obtain ⟨x0, x1, x2, x3, x4, x5, x6, x7, x8, x9, x10, x11, x12⟩ := hc
      obtain ⟨y0, y1, y2, y3, y4, y5, y6, y7, y8, y9, y10, y11, y12⟩ := hat
      dsimp only at x0 x1 x2 x3 x4 x5 x6 x7 x8 x9 x10 x11 x12 y0 y1 y2 y3 y4 y5 y6 y7 y8 y9 y10 y11 y12 hU
      have e1 : decide ((k : Int) < (len : Int)) = true := by simp; omega
      have i0 : (0 : Int) ≤ (k : Int) := by omega
      have i1 : (k : Int) < (len : Int) := by omega
      have i2 : (k : Int) < 1000000000000 := by have := HL.out; omega
      have HR := Lib.hid hR
      have HLt := Lib.hid hlt
      have HU := Lib.hid hU
      have HN1 := Lib.hid hn1
      clear hR hq hlt hk hcs hm hTn hpre hbu hJU d2 hU hn1 hJs
      gi_upto_region 3 with fail
      rw [← HU.out, ← HN1.out]
      gi_wp2
      refine HR.out.mono ?_
      rintro e W3 (⟨rfl, S', hJ3, hq3, hT3, hS3⟩ | ⟨rfl, hJx3, _⟩)
      · gi_wp2
        go_roundw
        case rel => exact ⟨k + 1, S', by have := HLt.out; omega, by simp, hJ3, hq3⟩
        case measure =>
          have := HLt.out
          simp [intOf]
          omega
      · gi_wp2
        refine bodyPost_ret (results_none rfl _ _ _) rfl ?_
        exact ⟨⟨_, rfl⟩, .inr hJx3⟩
    · obtain rfl : k = len := by omega
      have HQ2 := Lib.hid hq
      clear hq hlt hk
      gi_wp2
      go_end0
      exact ⟨⟨_, rfl⟩, .inl ⟨_, S, by rw [HL.out, List.take_length], hJs, HQ2.out⟩⟩
end Go.Proofs.YtlkiigoblkfkpaaGreatDoor

/-
  CONTRACT OF slots, positions: what a part has; the iterator over a rule's slots is made.
-/

namespace Go.Proofs.YtlkiigoblkfkpaaGreatDoor
open Go.RowKit
open Utf Term
set_option linter.unusedVariables false
set_option linter.unusedSimpArgs false

theorem slotsD_pat {l : LitD} (h : l.1 = 1 ∨ l.1 = 2) : slotsD l = patSl l.2.1 := if_pos h
theorem slotsD_cond {l : LitD} (h : ¬ (l.1 = 1 ∨ l.1 = 2)) : slotsD l = [l.2.2.1, l.2.2.2] := if_neg h
theorem litX_row {W : World} {g : Nat} {l : LitD} (h : W.rangeAt g 1 (encPa l.2.1)) : RowE encSl W g 1 (patSl l.2.1) := fun j u hu => h j u hu
set_option maxRecDepth 100000 in
set_option maxHeartbeats 4000000 in
theorem ckSlots_of (l : LitD) (w : World) :
    Calls Tryz.prog 37 #[.agg (encLi l).toArray] w fun e w' => ∃ g o cap, e = .returned (.slice (some ⟨g, o, none⟩) (slotsD l).length cap) ∧ RowE encSl w' g o (slotsD l) ∧ w.heap.size ≤ g ∧ Below w.heap.size w w' := by
  have d1 := heap_alloc_new w (.cells (encLi l).toArray 43)
  have hb := (Below.refl w.heap.size w).alloc (Nat.le_refl _) (.cells (encLi l).toArray 43)
  have s1 : (w.alloc (.cells (encLi l).toArray 43)).heap.size = w.heap.size + 1 := World.size_alloc _ _
  obtain ⟨n0, hn0⟩ : ∃ n0, n0 = w.heap.size := ⟨_, rfl⟩
  rw [← hn0] at d1
  obtain ⟨C, hC⟩ : ∃ C, C = (encLi l).toArray := ⟨_, rfl⟩
  rw [← hC] at hb s1 ⊢
  obtain ⟨W, hW⟩ : ∃ W, W = w.alloc (.cells C 43) := ⟨_, rfl⟩
  have hx : LitX W n0 l := by rw [hW]; exact litX_of (by rw [hC]; exact d1)
  rw [← hW] at hb s1
  have HW := Lib.hid hW
  have HN := Lib.hid hn0
  have HB := Lib.hid hb
  have k0 := hx.kind
  have HX := Lib.hid hx
  have HS1 := Lib.hid s1
  clear d1 hb hn0 hC hW hx s1
  by_cases h1 : l.1 = 1 ∨ l.1 = 2
  · have HR : Hid (∃ g o cap, Value.slice (some ⟨n0, 1, none⟩) 3 3 = Value.slice (some ⟨g, o, none⟩) (slotsD l).length cap ∧ RowE encSl W g o (slotsD l) ∧ w.heap.size ≤ g) := Lib.hid (by
      rw [slotsD_pat h1]
      exact ⟨n0, 1, 3, rfl, litX_row HX.out.pat, by rw [HN.out]; exact Nat.le_refl _⟩)
    obtain ⟨lk, lp, la, lb⟩ := l
    dsimp only at k0 h1
    rcases h1 with h1 | h1
    · subst h1
      go_enter Tryz.func37, Tryz.ntmps37
      go_upto_region 1 with fail
      rw [← HW.out, ← HN.out]
      go_wp2
      go_ret
      obtain ⟨g, o, cap, e, hr, hg⟩ := HR.out
      exact ⟨g, o, cap, by rw [← e]; rfl, hr, hg, HB.out⟩
    · subst h1
      go_enter Tryz.func37, Tryz.ntmps37
      go_upto_region 1 with fail
      rw [← HW.out, ← HN.out]
      go_wp2
      go_ret
      obtain ⟨g, o, cap, e, hr, hg⟩ := HR.out
      exact ⟨g, o, cap, by rw [← e]; rfl, hr, hg, HB.out⟩
  · obtain ⟨lk, lp, ⟨v, k, t, x⟩, ⟨u, i, s, y⟩⟩ := l
    dsimp only at k0 h1
    have e1 : (lk == 1) = false := by rw [beq_eq_false_iff_ne]; omega
    have e2 : (lk == 2) = false := by rw [beq_eq_false_iff_ne]; omega
    have a0 := HX.out.a0
    have a1 := HX.out.a1
    have a2 := HX.out.a2
    have a3 := HX.out.a3
    have b0 := HX.out.b0
    have b1 := HX.out.b1
    have b2 := HX.out.b2
    have b3 := HX.out.b3
    dsimp only at a0 a1 a2 a3 b0 b1 b2 b3
    have H1 := Lib.hid h1
    clear h1
    go_enter Tryz.func37, Tryz.ntmps37
    go_upto_region 1 with fail
    rw [← HW.out, ← HN.out]
    go_wp2
    go_ret
    refine ⟨W.heap.size, 0, 2, by rw [slotsD_cond (by exact H1.out)]; rfl, ?_, HB.out.size, HB.out.alloc HB.out.size _⟩
    rw [slotsD_cond (by exact H1.out)]
    intro j z hz
    rw [Nat.zero_add]
    refine cell_in (heap_alloc_new W _) ?_
    have e : (List.flatMap encSl [((v, k, t, x) : SlotD), (u, i, s, y)]) = [.string v, .int .i64 k, .string t, .string x, .string u, .int .i64 i, .string s, .string y] := rfl
    dsimp only at hz
    rw [e] at hz
    rw [← hz]
    exact List.getElem?_toArray ..
set_option maxRecDepth 100000 in
theorem ckPositions_calls (p : PatD) (s : SlD) (w : World) : Calls Tryz.prog 24 #[.agg (ruleC p (slV s))] w fun e w' =>
    e = .returned (.func (.func 36) #[] #[.pointer (some ⟨w.heap.size, 0, none⟩)]) ∧ w' = w.alloc (.cells (ruleC p (slV s)) 46) := by
  go_enter Tryz.func24, Tryz.ntmps24
  go_wp2
  go_ret
  exact ⟨rfl, rfl⟩
end Go.Proofs.YtlkiigoblkfkpaaGreatDoor

