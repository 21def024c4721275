/-
  WHAT THE PROOF STANDS ON, a part of it: UnMVals.
-/
import Derived.Test.YtjbfjglomonanaaU9
import Derived.Test.YtjbfjglomonanaaU6
import Derived.Test.YtjbfjglomonanaaU4
import Derived.Shelf.Abstract
import Derived.Shelf.RegionOpen
import Derived.OwnWalkIn
import Derived.TacticsInMore
import Derived.LoopNIn
import Derived.LoopIn
/-
  CONTRACT OF maps.Values AT A PARTITION'S CLIQUES, as an iterator: each entry once, in any order.
-/

namespace Go.Proofs.Ytjbfjglomonanaa
open Go.RowKit Go.Shelf
set_option linter.unusedVariables false
set_option linter.unusedSimpArgs false
attribute [local go_sem] Oper.semAt_some

abbrev encC1 (x : Nat × ClD) : Array Value := #[.agg #[.int .u32 (x.2.least : Int), .slice x.2.ao x.2.len x.2.cap]]
def nextMap (cl : Nat → Option ClD) (ip : List (Nat × ClD)) (x : Nat × ClD) (ip' : List (Nat × ClD)) : Prop := ip' = ip ++ [x] ∧ cl x.1 = some x.2 ∧ x.1 ∉ ip.map (·.1)
def doneMap (cl : Nat → Option ClD) (ip : List (Nat × ClD)) : Prop := ∀ k v, cl k = some v → k ∈ ip.map (·.1)
/-- The map in the box. -/
def MValsQ (b cb : Nat) (cl : Nat → Option ClD) (W : World) : Prop := W.cell? ⟨b, 0, none⟩ = some (.map (some cb)) ∧ MapU clV W cb cl
abbrev TMap (Q : World → Prop) : Unit → List (Nat × ClD) → (Nat → Prop) → World → Prop := fun _ _ _ W => Q W
set_option maxRecDepth 100000 in
set_option maxHeartbeats 4000000 in
theorem mvalues_calls (cb : Nat) (w : World) : Calls Try.prog 26 #[.map (some cb)] w fun e w' =>
    e = .returned (.func (.func 34) #[] #[.pointer (some ⟨w.heap.size, 0, none⟩)]) ∧ w' = w.alloc (.cells #[.map (some cb)] 46) := by
  go_enter Try.func26, Try.ntmps26
  go_wp2
  go_ret
  exact ⟨rfl, rfl⟩
set_option maxRecDepth 100000 in
set_option maxHeartbeats 4000000 in
theorem mvalues_seq (n : Nat) (hn : 1 ≤ n) (b cb : Nat) (cl : Nat → Option ClD) (S0 Loc : Nat → Prop) (w : World) (hS : ∀ j, S0 j → j < w.heap.size) (hLoc : ∀ j, Loc j → j < w.heap.size) (hcS : ¬ S0 cb) (hcL : ¬ Loc cb) (hcw : cb < w.heap.size) :
    SeqT Fence.wide n Try.prog 34 #[.pointer (some ⟨b, 0, none⟩)] encC1 (TMap (MValsQ b cb cl)) (nextMap cl) (doneMap cl) () [] S0 Loc w := by
  intro l J Jx W hW hJ hJx hY h0 hT0
  refine callsIn_of_wp Try.func34 rfl trivial ?_ rfl
  simp only [Try.ntmps34, List.size_toArray, List.length_cons, List.length_nil, Nat.reduceAdd, Nat.reduceSub, Array.replicate_succ, Array.replicate_zero, List.push_toArray, List.append_toArray, List.nil_append, List.cons_append]
  obtain ⟨q1, q2⟩ := hT0
  have HY := Lib.hid hY
  have HQ : Hid (MValsQ b cb cl W) := Lib.hid ⟨q1, q2⟩
  have HM := Lib.hid q2
  clear hY q2
  gi_wp2_with (first
    | (gi_at_range; refine wpListIn_range_mapU rfl _ 46 rfl Try.underlying46 rfl HM.out ?_; intro w0 cnt ob hw0 hob hit)
    | gi_in)
  have HJ0 : Hid (J [] S0 w0) := Lib.hid (by rw [hw0]; exact hJ.alloc ob h0)
  have HQ0 : Hid (MValsQ b cb cl w0) := Lib.hid (by
    have hb := (Below.refl W.heap.size W).alloc (Nat.le_refl _) ob
    rw [hw0]
    exact ⟨(hb.cell (p := ⟨b, 0, none⟩) (World.block_lt_of_cell? _ _ HQ.out.1)).trans HQ.out.1, HM.out.kept (Below.heap_alloc _ _ _ HM.out.lt)⟩)
  have HIt := Lib.hid hit
  have HWs : Hid (w.heap.size ≤ W.heap.size) := Lib.hid hW.size
  obtain ⟨r, hr⟩ : ∃ r, r = W.heap.size := ⟨_, rfl⟩
  rw [← hr] at HIt ⊢
  have HR := Lib.hid hr
  have HY2 := HY
  clear hit hw0 hr q1 h0
  go_frame
  gi_loopw [] (fun wr => ∃ (ip : List (Nat × ClD)) (S : Nat → Prop) (cnt : Nat), J ip S wr ∧ MValsQ b cb cl wr ∧ IterU clV wr cb r cl (ip.map (·.1)) cnt ∧ ¬ S r ∧ ¬ S cb) (fun wr => wr.rangeLeft cb r)
  case atStart => exact ⟨[], S0, cnt, HJ0.out, HQ0.out, HIt.out, fun h => by have := hS r h; have := HR.out; have := HWs.out; omega, hcS⟩
  case round =>
    obtain ⟨ip, S, cnt2, hJs, hq, hit, hSr, hSc⟩ := hrel
    have HJs := Lib.hid hJs
    have HQs := Lib.hid hq
    have HIs := Lib.hid hit
    have HSr := Lib.hid hSr
    have HSc := Lib.hid hSc
    clear hJs hq hit hSr hSc
    gi_wp2_with (first
      | (gi_at_next; refine wpListIn_next_mapU rfl _ rfl rfl HIs.out ?_ ?_; rotate_left; intro k v w2 cnt' hf hk hi hlt ht hs hen; rotate_left; intro hdone)
      | gi_in)
    · go_end0
      exact ⟨⟨_, rfl⟩, .inl ⟨ip, S, hdone, HJs.out, HQs.out⟩⟩
    · have hgr : wr.grownBy w2 (some r) := ⟨ht.os, ht.tape, ht.output, ht.size, fun i hi hne => ht.block i hi (fun e => hne (by rw [e]))⟩
      have hrlt := HIs.out.ltR
      have hrobj : ∃ o : Obj, wr.heap[r]? = some o ∧ o.isCells = false := by
        obtain ⟨es, c, seen, _, h2, _⟩ := HIs.out
        exact ⟨_, h2, rfl⟩
      have hJ2 : J ip S w2 := hJ ip S wr w2 (some r) HJs.out hgr (fun q e => by cases e; exact ⟨by rw [HR.out]; exact Nat.le_refl _, hrobj⟩)
      have hJ3 := hJ.alloc (.cells #[.int .u32 (v.least : Int), .slice v.ao v.len v.cap] 50) hJ2
      have hb2 : w2.cell? ⟨b, 0, none⟩ = some (.map (some cb)) := by
        rw [World.cell?_of_block (ht.block b (World.block_lt_of_cell? _ _ HQs.out.1) (fun e => by
          obtain ⟨o, ho, hc⟩ := hrobj
          have h8 := HQs.out.1
          unfold World.cell? at h8
          rw [e, ho] at h8
          cases o <;> simp_all [Obj.isCells]))]
        exact HQs.out.1
      have hm2 : MapU clV w2 cb cl := HQs.out.2.kept (ht.block cb HQs.out.2.lt (fun e => HIs.out.ne e.symm))
      have hba := (Below.refl w2.heap.size w2).alloc (Nat.le_refl _) (.cells #[.int .u32 (v.least : Int), .slice v.ao v.len v.cap] 50)
      have hq3 : MValsQ b cb cl (w2.alloc (.cells #[.int .u32 (v.least : Int), .slice v.ao v.len v.cap] 50)) := ⟨(hba.cell (p := ⟨b, 0, none⟩) (World.block_lt_of_cell? _ _ hb2)).trans hb2, hm2.kept (Below.heap_alloc _ _ _ hm2.lt)⟩
      obtain ⟨fn, tmps, assign, body, hy, hR⟩ := HY.out () ip (k, v) (ip ++ [(k, v)]) S _ hJ3 hq3 ⟨rfl, hf, hk⟩
      change (Instr.yield l #[.agg #[.int .u32 (v.least : Int), .slice v.ao v.len v.cap]]).run Try.prog _ = _ at hy
      have HIt3 : Hid (IterU clV (w2.alloc (.cells #[.int .u32 (v.least : Int), .slice v.ao v.len v.cap] 50)) cb r cl ((ip ++ [(k, v)]).map (·.1)) cnt') := Lib.hid (by
        have h9 := hi.kept (U := w2.alloc (.cells #[.int .u32 (v.least : Int), .slice v.ao v.len v.cap] 50)) (Below.heap_alloc _ _ _ hi.ltB) (Below.heap_alloc _ _ _ hi.ltR)
        rw [List.map_append]
        exact h9)
      have HRb := Lib.hid hR
      have HLt : Hid (cnt' < wr.rangeLeft cb r) := Lib.hid (by rw [HIs.out.left_eq]; exact hlt)
      clear hR hJ2 hJ3 hb2 hm2 hba hq3 hi hen hgr hrobj hf hk hlt ht
      rw [hy]
      gi_wp2
      refine HRb.out.mono ?_
      rintro e W3 (⟨rfl, S', hJ4, hq4, hT4, hS4⟩ | ⟨rfl, hJx4, _⟩)
      · have hr3 : ¬ bothS S Loc r := fun h => h.elim HSr.out (fun h => by have := hLoc r h; have := HR.out; have := HWs.out; omega)
        have hc3 : ¬ bothS S Loc cb := fun h => h.elim HSc.out hcL
        have HIt4 : Hid (IterU clV W3 cb r cl ((ip ++ [(k, v)]).map (·.1)) cnt') := Lib.hid (HIt3.out.kept (hT4.block cb HIt3.out.ltB hc3) (hT4.block r HIt3.out.ltR hr3))
        have HJ4 := Lib.hid hJ4
        have HQ4 := Lib.hid hq4
        have HS4 := Lib.hid hS4
        clear hJ4 hq4 hT4 hS4 hr3 hc3
        gi_wp2
        go_roundw
        case rel => exact ⟨_, S', cnt', HJ4.out, HQ4.out, HIt4.out, fun h => (HS4.out r h).elim HSr.out (fun h => by have := HIt3.out.ltR; omega), fun h => (HS4.out cb h).elim HSc.out (fun h => by have := HIt3.out.ltB; omega)⟩
        case measure =>
          rw [HIt4.out.left_eq]
          exact HLt.out
      · gi_wp2
        refine bodyPost_ret (results_none rfl _ _ _) rfl ?_
        exact ⟨⟨_, rfl⟩, .inr hJx4⟩
end Go.Proofs.Ytjbfjglomonanaa

