/-
  CONTRACT OF slices.Values AT NUMBERS OF 32 BITS, as an iterator.
-/
import Derived.Test.YtloonndeojfepaaUnSort0
import Derived.Test.YtloonndeojfepaaSeqT
import Derived.Shelf.Abstract
import Derived.Shelf.RegionOpen
import Derived.OwnWalkIn
import Derived.TacticsInMore
import Derived.LoopNIn
import Derived.LoopIn
namespace Go.Proofs.Ytloonndeojfepaa
open Go.RowKit Go.Shelf
set_option linter.unusedVariables false
set_option linter.unusedSimpArgs false
attribute [local go_sem] Oper.semAt_some

abbrev encU1 (k : Nat) : Array Value := #[Value.int .u32 (k : Int)]
def nextIn (ns : List Nat) (ip : List Nat) (k : Nat) (ip' : List Nat) : Prop := ip' = ip ++ [k] ∧ ip ++ [k] <+: ns
abbrev TIn (Q : World → Prop) : Unit → List Nat → (Nat → Prop) → World → Prop := fun _ _ _ W => Q W
set_option maxRecDepth 100000 in
set_option maxHeartbeats 4000000 in
theorem values_calls (ao : Option Addr) (len cap : Nat) (w : World) : Calls Try.prog 30 #[.slice ao len cap] w fun e w' =>
    e = .returned (.func (.func 38) #[] #[.pointer (some ⟨w.heap.size, 0, none⟩)]) ∧ w' = w.alloc (.cells #[.slice ao len cap] 33) := by
  go_enter Try.func30, Try.ntmps30
  go_wp2
  go_ret
  exact ⟨rfl, rfl⟩
/-- The slice in the box, and its numbers. -/
def ValsQ (b : Nat) (ao : Option Addr) (len cap : Nat) (ns : List Nat) (W : World) : Prop :=
  W.cell? ⟨b, 0, none⟩ = some (.slice ao len cap) ∧ len = ns.length ∧ (0 < len → ∃ g o, ao = some ⟨g, o, none⟩ ∧ ∀ j k : Nat, ns[j]? = some k → W.cell? ⟨g, o + j, none⟩ = some (.int .u32 (k : Int)))
theorem take_next {ns : List Nat} {k m : Nat} (h : ns[k]? = some m) : ns.take k ++ [m] = ns.take (k + 1) := by
  rw [List.take_add_one, h]
  rfl
set_option maxRecDepth 100000 in
set_option maxHeartbeats 4000000 in
theorem values_seq (n : Nat) (hn : 1 ≤ n) (b : Nat) (ao : Option Addr) (len cap : Nat) (ns : List Nat) (hl : ns.length ≤ 1000000000000) (S0 Loc : Nat → Prop) (w : World) :
    SeqT Fence.wide n Try.prog 38 #[.pointer (some ⟨b, 0, none⟩)] encU1 (TIn (ValsQ b ao len cap ns)) (nextIn ns) (fun ip => ip = ns) () [] S0 Loc w := by
  intro l J Jx W hW hJ hJx hY h0 hT0
  refine callsIn_of_wp Try.func38 rfl trivial ?_ rfl
  simp only [Try.ntmps38, List.size_toArray, List.length_cons, List.length_nil, Nat.reduceAdd, Nat.reduceSub, Array.replicate_succ, Array.replicate_zero, List.push_toArray, List.append_toArray, List.nil_append, List.cons_append]
  obtain ⟨q1, q2, q3⟩ := hT0
  have HY := Lib.hid hY
  have HQ : Hid (ValsQ b ao len cap ns W) := Lib.hid ⟨q1, q2, q3⟩
  have HL : Hid (len = ns.length) := Lib.hid q2
  clear hY q2 q3
  gi_wp2
  gi_loopw [7] (fun i wr => ∃ (k : Nat) (S : Nat → Prop), k ≤ len ∧ i = .int .i64 (k : Int) ∧ J (ns.take k) S wr ∧ ValsQ b ao len cap ns wr)
    (fun i _ => len - (intOf i).toNat)
  case atStart => exact ⟨0, S0, Nat.zero_le _, rfl, h0, HQ.out⟩
  case round =>
    obtain ⟨k, S, hk, rfl, hJs, hq⟩ := hrel
    by_cases hlt : k < len
    · obtain ⟨g, o, rfl, hcs⟩ := hq.2.2 (by omega)
      obtain ⟨m, hm⟩ : ∃ m, ns[k]? = some m := ⟨_, List.getElem?_eq_getElem (by rw [← HL.out]; exact hlt)⟩
      have hc := hcs k m hm
      obtain ⟨fn, tmps, assign, body, hy, hR⟩ := HY.out () (ns.take k) m (ns.take (k + 1)) S wr hJs hq ⟨(take_next hm).symm, by rw [take_next hm]; exact List.take_prefix _ _⟩
      change (Instr.yield l #[Value.int .u32 (m : Int)]).run Try.prog wr = _ at hy
      have e1 : decide ((k : Int) < (len : Int)) = true := by simp; omega
      have i0 : (0 : Int) ≤ (k : Int) := by omega
      have i1 : (k : Int) < (len : Int) := by omega
      have i2 : (k : Int) < 1000000000000 := by have := HL.out; omega
      have HR := Lib.hid hR
      have HQ2 := Lib.hid hq
      have HLt := Lib.hid hlt
      clear hR hq hlt hk hcs hm
      gi_wp2
      refine HR.out.mono ?_
      rintro e W3 (⟨rfl, S', hJ3, hq3, hT3, hS3⟩ | ⟨rfl, hJx3, _⟩)
      · gi_wp2
        go_roundw
        case rel => exact ⟨k + 1, S', by have := HLt.out; omega, by simp, hJ3, hq3⟩
        case measure =>
          have := HLt.out
          simp [intOf]
          omega
      · gi_wp2
        refine bodyPost_ret (results_none rfl _ _ _) rfl ?_
        exact ⟨⟨_, rfl⟩, .inr hJx3⟩
    · obtain rfl : k = len := by omega
      have HQ2 := Lib.hid hq
      clear hq hlt hk
      gi_wp2
      go_end0
      exact ⟨⟨_, rfl⟩, .inl ⟨_, S, by rw [HL.out, List.take_length], hJs, HQ2.out⟩⟩
end Go.Proofs.Ytloonndeojfepaa
