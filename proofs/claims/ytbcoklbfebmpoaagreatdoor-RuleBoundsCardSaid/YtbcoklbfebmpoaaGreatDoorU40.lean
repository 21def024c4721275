/-
  WHAT THE PROOF STANDS ON, a part of it: RuBounds.
-/
import Derived.Test.YtbcoklbfebmpoaaGreatDoorU37
import Derived.Test.YtbcoklbfebmpoaaGreatDoorU39
import Derived.Test.YtbcoklbfebmpoaaGreatDoorU28
import Derived.Deep.RegionLawGrows
/-
  THE WALK OF RuleBounds.
-/

namespace Go.Proofs.YtbcoklbfebmpoaaGreatDoor
open Go.RowKit
open Utf Term Lex
set_option linter.unusedVariables false
set_option linter.unusedSimpArgs false

theorem size_setCells : ∀ (cs : List Value) (g o : Nat) (U : World), (U.setCells g o cs).heap.size = U.heap.size
  | [], _, _, _ => rfl
  | c :: cs, g, o, U => by
    show ((U.setCell _ _).setCells _ _ _).heap.size = _
    rw [size_setCells cs g (o + 1)]
    simp [World.setCell]
theorem BlockAt.moved {w u : World} {b g : Nat} {cs : Array Value} {t : TypeId} (h : BlockAt w g cs t) (m : Moves b w u) (hne : g ≠ b) : BlockAt u g cs t := by
  have hlt := (Array.getElem?_eq_some_iff.1 (show w.heap[g]? = some _ from h)).1
  show u.heap[g]? = _
  rw [m.block g hlt hne]
  exact h
/-- The five variables, and the body so far. -/
structure Bd (nv nw : ByteArray) (n0 : Nat) (w : World) (k : Nat) (v : Value) (wr : World) : Prop where
  fp : BlockAt wr n0 (slotC bdP) 33
  fv : BlockAt wr (n0 + 1) (slotC (bdV nv)) 33
  fw : BlockAt wr (n0 + 2) (slotC (bdV nw)) 33
  fl : BlockAt wr (n0 + 3) (litC (bdL nv)) 37
  fr : BlockAt wr (n0 + 4) (ruleC (bdH nv) v) 50
  own : ownL wr (n0 + 5) v (List.replicate k (bdL nv))
  low : Below n0 w wr
  size : n0 + 5 ≤ wr.heap.size
theorem Bd.below {nv nw : ByteArray} {n0 k : Nat} {w wr u : World} {v : Value} (h : Bd nv nw n0 w k v wr) (hB : Below wr.heap.size wr u) : Bd nv nw n0 w k v u :=
  ⟨h.fp.kept hB, h.fv.kept hB, h.fw.kept hB, h.fl.kept hB, h.fr.kept hB, own_keepR h.own hB, h.low.trans (hB.mono (by have := h.size; omega)), Nat.le_trans h.size hB.size⟩
theorem not_own {w : World} {B : Nat} {v : Value} {ls : List LitD} (h : ownL w B v ls) {g : Nat} (hg : g < B) : v.ownBlock ≠ some g := by
  rcases h.2 with ⟨rfl, _⟩ | ⟨b, cap, cur, rfl, hb, _⟩
  · intro e; cases e
  · intro e
    have : b = g := Option.some.inj e
    omega
/-- One more part. -/
theorem Bd.step {nv nw : ByteArray} {n0 k : Nat} {w wr w1 : World} {v v' : Value} (h : Bd nv nw n0 w k v wr) (o : Obj) (hg : (wr.alloc o).grownBy w1 v.ownBlock) (ho : ownL w1 (n0 + 5) v' (List.replicate (k + 1) (bdL nv))) :
    BlockAt w1 (n0 + 4) (ruleC (bdH nv) v) 50 ∧ BlockAt w1 (n0 + 3) (litC (bdL nv)) 37 ∧ Bd nv nw n0 w (k + 1) v' (w1.setCell ⟨n0 + 4, 12, none⟩ v') := by
  have hA := h.below (below_lex wr o)
  have hoa : ownL (wr.alloc o) (n0 + 5) v (List.replicate k (bdL nv)) := hA.own
  have g0 := hA.fp.grown hg (not_own hoa (by omega))
  have g1 := hA.fv.grown hg (not_own hoa (by omega))
  have g2 := hA.fw.grown hg (not_own hoa (by omega))
  have g3 := hA.fl.grown hg (not_own hoa (by omega))
  have g4 := hA.fr.grown hg (not_own hoa (by omega))
  have hlow : Below n0 w w1 := hA.low.grown hg (by have := hA.size; omega) (fun q hq => by have := (hoa.lt q hq).1; omega)
  refine ⟨g4, g3, ⟨g0.other (by omega) _ _, g1.other (by omega) _ _, g2.other (by omega) _ _, g3.other (by omega) _ _, g4.set 12 v', ?_, hlow.setCell (p := ⟨n0 + 4, 12, none⟩) (by show n0 ≤ n0 + 4; omega) _, ?_⟩⟩
  · exact owns_moves ho (moves_setCells (g := n0 + 4) [v'] 12 w1) (by omega)
  · have := hg.size
    have := hA.size
    simp [World.setCell]
    omega

theorem flatL_rep (n : Nat) (l : LitD) : (flatL (List.replicate n l)).length = n * 21 := by
  induction n with
  | zero => rfl
  | succ n ih =>
    rw [List.replicate_succ', flatL_append, flatL_one, List.length_append, ih]
    show n * 21 + 21 = _
    omega
theorem ownL_range {w : World} {B : Nat} {v : Value} {ls : List LitD} (h : ownL w B v ls) (hn : 0 < ls.length) : ∃ g cp OL, v = .slice (some ⟨g, 0, none⟩) ls.length cp ∧ ls.length ≤ cp ∧ OL = flatL ls ∧ w.rangeAt g 0 OL := by
  rcases h.2 with ⟨rfl, h0⟩ | ⟨g, cap, cur, rfl, hb, hg, hc, hm, hz, ht⟩
  · omega
  · refine ⟨g, cap, _, rfl, hc, rfl, fun j u hu => ?_⟩
    rw [Nat.zero_add, cell_of_row w g j cur _ (0, 0) hg]
    rw [← ht, List.getElem?_take] at hu
    split at hu
    · simpa using hu
    · cases hu
theorem holds_of {U y : World} {g : Nat} {OL : List Value} (h : y.rangeAt g 0 OL) (k : Below y.heap.size y U) : ∀ b, (some ⟨g, 0, none⟩ : Option Addr) = some b → ∀ j u, OL[j]? = some u → U.cell? (b.add j) = some u := by
  intro b hb j u hu
  injection hb with hb
  subst hb
  rw [Addr.add_mid]
  exact range_below h k j u hu

/-- One part more than may be. -/
def MrA (y : World) (nv : ByteArray) (s11 : Value) (wx : World) : Prop :=
  ∃ g q n c, s11 = .pointer (some ⟨g, 0, none⟩) ∧ BlockAt wx g (ruleC (bdH nv) (.slice q n c)) 50 ∧ BodyS wx (.slice q n c) (List.replicate 65 (bdL nv)) ∧ Below y.heap.size y wx
theorem mr_grown {y U w' : World} {v' : Value} {OL C : List Value} {nv : ByteArray} (hB : Below y.heap.size y U) (hown : w'.ownsRow U.heap.size 37 21 v' (64 + 1) (OL ++ C)) (hgrow : U.grownBy w' none) (hl : OL.length = 64 * 21) (he : flatL (List.replicate 65 (bdL nv)) = OL ++ C) :
    ∃ q n c, v' = .slice q n c ∧ ownL w' U.heap.size v' (List.replicate 65 (bdL nv)) ∧ Below y.heap.size y w' := by
  have h1 : ownL w' U.heap.size v' (List.replicate 65 (bdL nv)) := by
    show World.ownsRow _ _ _ _ _ _ _
    rw [he, List.length_replicate]
    exact hown
  obtain ⟨q, n, c, e⟩ := own_form h1
  exact ⟨q, n, c, e, h1, hB.grown hgrow hB.size (fun k hk => by cases hk)⟩
theorem run_buildOne {P : Program} (w : World) (t e : TypeId) (C : List Value) (hu : P.underlying t = some (.slice e)) (hi : (P.info? e).map (·.size) = some C.length) (hz : ((P.info? e).bind (·.zero)).isSome = true) (hp : 0 < C.length) (hs : C.length ≤ 1000) :
    (Instr.buildSlice t 1 #[(0, .agg C.toArray)]).run P w = .ok (.slice (some ⟨w.heap.size, 0, none⟩) 1 1) (w.alloc (.cells C.toArray e)) := by
  cases hie : P.info? e with
  | none => simp [hie] at hi
  | some ie =>
    simp only [hie, Option.map_some, Option.some.injEq, Option.bind_some] at hi hz
    obtain ⟨z, hzz⟩ := Option.isSome_iff_exists.1 hz
    refine run_buildSlice w t e 1 #[(0, .agg C.toArray)] C.toArray ie z hu hie hzz (by rw [hi]; omega) (by rw [hi]; omega) ?_
    rw [hi]
    exact fill_one C _ (by simp)
theorem block_grown {w w' : World} {g : Nat} {cs : Array Value} {t : TypeId} (h : BlockAt w g cs t) (hg : w.grownBy w' none) : BlockAt w' g cs t := by
  have hlt := (Array.getElem?_eq_some_iff.1 (show w.heap[g]? = some _ from h)).1
  show w'.heap[g]? = _
  rw [hg.block g hlt (by simp)]
  exact h
theorem below_putR {B : Nat} {w W : World} (h : Below B w W) (hz : B ≤ W.heap.size) {g : Nat} (hg : B ≤ g) (C : List Value) : Below B w (W.setCells g 0 C) := h.trans ((moves_setCells (g := g) C 0 W).below hz hg)
theorem wp_buildOne {P : Program} {o : Oper} {a : Act} {w : World} {K : Act → World → Prop} {Q : Exit → Act → World → Prop} (t e : TypeId) (x : Operand) (ho : o.op = .buildSlice t 1 #[(0, x)]) (C : List Value) (hx : a.eval x = .agg C.toArray)
    (hu : P.underlying t = some (.slice e)) (hi : (P.info? e).map (·.size) = some C.length) (hz : ((P.info? e).bind (·.zero)).isSome = true) (hp : 0 < C.length) (hs : C.length ≤ 1000)
    (h : K (a.put o.dst (.slice (some ⟨w.heap.size, 0, none⟩) 1 1)) (w.alloc (.cells C.toArray e))) : o.wp P a w K Q := by
  have hr := run_buildOne w t e C hu hi hz hp hs
  unfold Oper.wp execOp
  have he : (#[(0, x)].map fun (i, x) => (i, a.eval x)) = #[(0, Value.agg C.toArray)] := by simp [hx]
  simp only [ho, Sem.run_bind, he, hr, Result.andThen_ok]
  exact h
theorem wp_allocT {P : Program} {o : Oper} {a : Act} {w : World} {K : Act → World → Prop} {Q : Exit → Act → World → Prop} (t : TypeId) (ho : o.op = .alloc t) (v : Value) (ob : Obj) (hr : (Instr.alloc t true (.tuple #[])).run P w = .ok v (w.alloc ob))
    (h : K (a.put o.dst v) (w.alloc ob)) : o.wp P a w K Q := by
  unfold Oper.wp execOp
  simp only [ho, Sem.run_bind, hr, Result.andThen_ok]
  exact h
theorem bd_concat {T PT : ByteArray} {nv : ByteArray} {m : Nat} (hT : T = strOfNums (ruleL (bdR nv 64))) (hP : PT = litT (bdL nv)) (hm : T.size = m + 2) :
    ((T.extract 0 m ++ ⟨#[44, 32]⟩) ++ PT) ++ ⟨#[32, 46]⟩ = strOfNums (ruleL (bdR nv 65)) := by
  refine strOf_eq ?_
  have h1 : bs T = ruleL (bdR nv 64) := by rw [hT, bs_strOfNums (ruleL_byte _)]
  have h2 : bs PT = litL (bdL nv) := by rw [hP]; exact bs_strOfNums (litL_byte _)
  have h3 : (ruleL (bdR nv 64)).length - 2 = m := by rw [← h1, bs_length]; omega
  rw [bs_app, bs_app, bs_app, bs_first, h1, h2, bd_next nv 63, h3]
  show _ ++ [44, 32] ++ _ ++ [32, 46] = _
  simp
theorem wpList_load_wantR {P : Program} {ops : Array Oper} {rest : List Oper} {op : Oper} {a : Act} {w : World} {Q : Exit → Act → World → Prop} (hw : Region.wanted op (yielded ops a.tmps) = true) (ty : TypeId) (x : Operand) (ho : op.op = .load ty x)
    (b o : Nat) (hx : a.eval x = .pointer (some ⟨b, o, none⟩)) (cs : List Value) (d : TypeDesc) (hc : w.rangeAt b o cs)
    (hu : P.underlying ty = some d) (hd : d.isRow = true) (hi : (P.info? ty).map (·.size) = some cs.length)
    (h : wpList P ops Q rest (a.put op.dst (.agg cs.toArray)) w) : wpList P ops Q (op :: rest) a w :=
  wpList_step fun K hK => by
    rw [if_pos hw]
    exact wp_load_mid ty x ho b o hx cs d hc hu hd hi (hK _ _ h)
theorem thereR {W : World} {g : Nat} {t : TypeId} (h : BlockAt W g zRuC t) : W.there g 0 13 := by
  have e : zRuC.size = 13 := by decide
  rw [← e]
  exact h.there

theorem run_allocR (w : World) : (Instr.alloc 50 true (.tuple #[])).run Tryz.prog w = .ok (.pointer (some ⟨w.heap.size, 0, none⟩)) (w.alloc (.cells zRuC 50)) := by
  go_simp

set_option maxRecDepth 100000 in
set_option maxHeartbeats 16000000 in
theorem ruleBounds_walk (w : World) (he : LexEnv w) (hrp : HrpR w.heap.size) :
    Calls Tryz.prog 4 #[] w fun e w' => e = .returned (.bool true) ∧ Below w.heap.size w w' := by
  obtain ⟨mx, hmx⟩ := he.len
  have HE := Lib.hid he
  have HRp := Lib.hid hrp
  have Hmx := Lib.hid hmx
  obtain ⟨nv, hnv⟩ : ∃ nv, nv = nmV := ⟨_, rfl⟩
  obtain ⟨nw, hnw⟩ : ∃ nw, nw = nmW := ⟨_, rfl⟩
  have eV : (⟨#[97, 98, 99, 100, 101, 102, 103, 104, 105, 106, 107, 108, 109, 110, 111, 112, 113, 114, 115, 116, 117, 118, 119, 120, 121, 122, 65, 66, 67, 68, 69, 70]⟩ : ByteArray) = nv := by rw [hnv]; rfl
  have eW : (⟨#[97, 98, 99, 100, 101, 102, 103, 104, 105, 106, 107, 108, 109, 110, 111, 112, 113, 114, 115, 116, 117, 118, 119, 120, 121, 122, 65, 66, 67, 68, 69, 70, 71]⟩ : ByteArray) = nw := by rw [hnw]; rfl
  have HV := Lib.hid hnv
  have HW := Lib.hid hnw
  have EV := Lib.hid eV
  have EW := Lib.hid eW
  clear hnv hnw eV eW
  obtain ⟨i0, z0, hi, hz0, hz1, hz2, hz3⟩ := info_lit
  have HI := Lib.hid hi
  have HZ0 := Lib.hid hz0
  have HZ1 := Lib.hid hz1
  have HZ2 := Lib.hid hz2
  have HZ3 := Lib.hid hz3
  have HSz : Hid ((Tryz.prog.info? 37).map (·.size) = some (litC (bdL nv)).toList.length) := Lib.hid (by kernel_rfl)
  have HZi : Hid (((Tryz.prog.info? 37).bind (·.zero)).isSome = true) := Lib.hid (by kernel_rfl)
  clear he hrp hmx hi hz0 hz1 hz2 hz3
  go_enter Tryz.func4, Tryz.ntmps4
  obtain ⟨n0, hn0⟩ : ∃ n0, n0 = w.heap.size := ⟨_, rfl⟩
  have HN0 := Lib.hid hn0
  clear hn0
  go_upto_region 2 with fail
  have hn0 := HN0.out
  generalize hW1 : World.alloc w _ = W1
  have hs1 : W1.heap.size = n0 + 1 := by rw [← hW1, World.size_alloc, hn0]
  have hb1 : Below n0 w W1 := by rw [← hW1, hn0]; exact below_lex _ _
  have b1 : BlockAt W1 n0 (slotC bdP) 33 := by rw [← hW1, hn0]; exact block_new w (slotC bdP) _
  rw [← hn0]
  clear hn0
  have S1 := Lib.hid hs1
  have B1 := Lib.hid b1
  have L1 := Lib.hid hb1
  clear hW1 hs1 b1 hb1
  go_upto_region 3 with fail
  rw [EV.out]
  generalize hW2 : World.alloc W1 _ = W2
  have hs2 : W2.heap.size = n0 + 2 := by rw [← hW2, World.size_alloc, S1.out]
  have b1 : BlockAt W2 n0 (slotC bdP) 33 := by rw [← hW2]; exact B1.out.alloc _
  have hb2 : Below n0 w W2 := by rw [← hW2]; exact L1.out.alloc (by have := S1.out; omega) _
  have b2 : BlockAt W2 (n0 + 1) (slotC (bdV nv)) 33 := by rw [← hW2, ← S1.out]; exact block_new W1 (slotC (bdV nv)) _
  have S2 := Lib.hid hs2
  have B1 := Lib.hid b1
  have B2 := Lib.hid b2
  have L2 := Lib.hid hb2
  rw [S1.out]
  clear hW2 hs2 b1 b2 hb2
  go_upto_region 4 with fail
  rw [EW.out]
  generalize hW3 : World.alloc W2 _ = W3
  have hs3 : W3.heap.size = n0 + 3 := by rw [← hW3, World.size_alloc, S2.out]
  have b1 : BlockAt W3 n0 (slotC bdP) 33 := by rw [← hW3]; exact B1.out.alloc _
  have b2 : BlockAt W3 (n0 + 1) (slotC (bdV nv)) 33 := by rw [← hW3]; exact B2.out.alloc _
  have b3 : BlockAt W3 (n0 + 2) (slotC (bdV nw)) 33 := by rw [← hW3, ← S2.out]; exact block_new W2 (slotC (bdV nw)) _
  have hb3 : Below n0 w W3 := by rw [← hW3]; exact L2.out.alloc (by have := S2.out; omega) _
  have S3 := Lib.hid hs3
  have B1 := Lib.hid b1
  have B2 := Lib.hid b2
  have B3 := Lib.hid b3
  have L3 := Lib.hid hb3
  rw [S2.out]
  have q0 : W3.cell? ⟨n0, 0, none⟩ = some (.string ⟨#[]⟩) := b1.cell (j := 0) rfl
  have q1 : W3.cell? ⟨n0, 1, none⟩ = some (.int .i64 1) := b1.cell (j := 1) rfl
  have q2 : W3.cell? ⟨n0, 2, none⟩ = some (.string ⟨#[112]⟩) := b1.cell (j := 2) rfl
  have q3 : W3.cell? ⟨n0, 3, none⟩ = some (.string ⟨#[]⟩) := b1.cell (j := 3) rfl
  have r0 : W3.cell? ⟨n0 + 1, 0, none⟩ = some (.string nv) := b2.cell (j := 0) rfl
  have r1 : W3.cell? ⟨n0 + 1, 1, none⟩ = some (.int .i64 0) := b2.cell (j := 1) rfl
  have r2 : W3.cell? ⟨n0 + 1, 2, none⟩ = some (.string ⟨#[]⟩) := b2.cell (j := 2) rfl
  have r3 : W3.cell? ⟨n0 + 1, 3, none⟩ = some (.string ⟨#[]⟩) := b2.cell (j := 3) rfl
  clear hW3 hs3 b1 b2 b3 hb3
  have HTl := Lib.hid (block_new W3 (litC zLi) 37).there
  have HI21 : Hid ((Tryz.prog.info? 37).map (·.size) = some 21) := Lib.hid (by kernel_rfl)
  go_upto_region 5 with (refine wpList_store_mid rfl 37 (.tmp 4) (.tmp 26) rfl W3.heap.size 0 (litC (bdL nv)) rfl rfl HTl.out HI21.out (litC_all _) ?_)
  generalize hW4 : World.setCells (World.alloc W3 _) _ _ _ = W4
  have mv4 : Moves W3.heap.size W3 W4 := by rw [← hW4]; exact (Moves.of_below (below_lex W3 _)).trans (moves_setCells _ 0 _)
  have hs4 : W4.heap.size = n0 + 4 := by rw [← hW4, size_setCells, World.size_alloc, S3.out]
  have b1 : BlockAt W4 n0 (slotC bdP) 33 := B1.out.moved mv4 (by have := S3.out; omega)
  have b2 : BlockAt W4 (n0 + 1) (slotC (bdV nv)) 33 := B2.out.moved mv4 (by have := S3.out; omega)
  have b3 : BlockAt W4 (n0 + 2) (slotC (bdV nw)) 33 := B3.out.moved mv4 (by have := S3.out; omega)
  have b4 : BlockAt W4 (n0 + 3) (litC (bdL nv)) 37 := by rw [← hW4, ← S3.out]; exact (block_new W3 (litC zLi) _).putAll (litC (bdL nv)) rfl
  have hb4 : Below n0 w W4 := L3.out.trans (mv4.below (by have := S3.out; omega) (by have := S3.out; omega))
  have S4 := Lib.hid hs4
  have B1 := Lib.hid b1
  have B2 := Lib.hid b2
  have B3 := Lib.hid b3
  have B4 := Lib.hid b4
  have L4 := Lib.hid hb4
  rw [S3.out]
  clear q0 q1 q2 q3 r0 r1 r2 r3
  have q0 : W4.cell? ⟨n0, 0, none⟩ = some (.string ⟨#[]⟩) := b1.cell (j := 0) rfl
  have q1 : W4.cell? ⟨n0, 1, none⟩ = some (.int .i64 1) := b1.cell (j := 1) rfl
  have q2 : W4.cell? ⟨n0, 2, none⟩ = some (.string ⟨#[112]⟩) := b1.cell (j := 2) rfl
  have q3 : W4.cell? ⟨n0, 3, none⟩ = some (.string ⟨#[]⟩) := b1.cell (j := 3) rfl
  have r0 : W4.cell? ⟨n0 + 1, 0, none⟩ = some (.string nv) := b2.cell (j := 0) rfl
  have r1 : W4.cell? ⟨n0 + 1, 1, none⟩ = some (.int .i64 0) := b2.cell (j := 1) rfl
  have r2 : W4.cell? ⟨n0 + 1, 2, none⟩ = some (.string ⟨#[]⟩) := b2.cell (j := 2) rfl
  have r3 : W4.cell? ⟨n0 + 1, 3, none⟩ = some (.string ⟨#[]⟩) := b2.cell (j := 3) rfl
  clear hW4 hs4 b1 b2 b3 b4 hb4 mv4
  have HTr := Lib.hid (block_new W4 (ruleC zPa nilS) 50).there
  have HI13 : Hid ((Tryz.prog.info? 50).map (·.size) = some 13) := Lib.hid (by kernel_rfl)
  go_upto_region 6 with (refine wpList_store_mid rfl 50 (.tmp 5) (.tmp 31) rfl W4.heap.size 0 (ruleC (bdH nv) (.slice none 0 0)) rfl rfl HTr.out HI13.out (ruleC_all _ _ _ _) ?_)
  generalize hW5 : World.setCells (World.alloc W4 _) _ _ _ = W5
  have mv5 : Moves W4.heap.size W4 W5 := by rw [← hW5]; exact (Moves.of_below (below_lex W4 _)).trans (moves_setCells _ 0 _)
  have h5 : Bd nv nw n0 w 0 (.slice none 0 0) W5 := by
    have s4 := S4.out
    have hs5 : W5.heap.size = n0 + 5 := by rw [← hW5, size_setCells, World.size_alloc, s4]
    have b5 : BlockAt W5 (n0 + 4) (ruleC (bdH nv) (.slice none 0 0)) 50 := by rw [← hW5, ← s4]; exact (block_new W4 (ruleC zPa nilS) _).putAll (ruleC (bdH nv) (.slice none 0 0)) rfl
    exact ⟨B1.out.moved mv5 (by omega), B2.out.moved mv5 (by omega), B3.out.moved mv5 (by omega), B4.out.moved mv5 (by omega), b5, World.ownsRow_nil _ _ _ _, L4.out.trans (mv5.below (by omega) (by omega)), Nat.le_of_eq hs5.symm⟩
  rw [S4.out]
  clear q0 q1 q2 q3 r0 r1 r2 r3 B1 B2 B3 B4 S1 S2 S3 S4 L1 L2 L3 L4 hW5 HTl HTr mv5
  have H5 := Lib.hid h5
  have hrg : (litC (bdL nv)).toList.length = 21 := rfl
  clear h5
  obtain ⟨C, hC⟩ : ∃ C, C = (litC (bdL nv)).toList := ⟨_, rfl⟩
  have HC := Lib.hid hC
  have hCl : C.length = 21 := by rw [hC]; rfl
  have hSz := HSz.out
  rw [← hC] at hSz
  have HSz := Lib.hid hSz
  have hp1 : 0 < C.length := by omega
  have hp2 : C.length ≤ 1000 := by omega
  clear hrg hSz hC
  go_wp2_with fail
  go_loopg [6] 64 (fun gk i wr => ∃ (k : Nat) (v : Value), i = .int .i64 k ∧ k ≤ 64 ∧ 64 - k ≤ gk ∧ Bd nv nw n0 w k v wr)
  case atStart => exact ⟨0, _, rfl, by omega, by omega, H5.out⟩
  case round =>
    obtain ⟨k, v, rfl, hk, hgk, hbd⟩ := hrel
    have HB := Lib.hid hbd
    by_cases hlt : k < 64
    · have d1 : decide ((k : Int) < 64) = true := by simp; omega
      have c12 := hbd.fr.cell (j := 12) rfl
      have hr4 := hbd.fl.range
      have hrC : wr.rangeAt (n0 + 3) 0 C := by rw [HC.out]; exact hr4
      have HR4 := Lib.hid hrC
      have HO := Lib.hid hbd.own
      have hsz := hbd.size
      have HOne : Hid (∀ u ∈ C, u.oneCell' = true) := Lib.hid (by rw [HC.out]; exact lit_ones (bdL nv))
      have HNx : Hid (flatL (List.replicate (k + 1) (bdL nv)) = flatL (List.replicate k (bdL nv)) ++ C) := Lib.hid (by
        rw [List.replicate_succ', flatL_append, flatL_one, HC.out])
      have HLk : Hid ((List.replicate k (bdL nv)).length = k) := Lib.hid (by simp)
      clear hr4 hrC hbd
      go_upto_region 8 with (first
        | (refine wpList_load_mid rfl 37 (.tmp 4) rfl (n0 + 3) 0 rfl C _ HR4.out Tryz.underlying37 rfl HSz.out ?_)
        | (refine wpList_buildOne rfl 48 37 (.tmp 38) rfl C rfl Tryz.underlying48 HSz.out HZi.out hp1 hp2 ?_)
        | (at_builtin; refine wpList_append_own _ rfl _ _ 48 rfl (n0 + 5) 37 i0 z0 21 288 Tryz.underlying48 HI.out HZ0.out HZ1.out HZ2.out HZ3.out (by decide) _ _ _ rfl (HO.out.alloc _) ⟨wr.heap.size, 0, none⟩ 1 1 C rfl (by rw [hCl]) (fun j u h => by rw [Addr.add_mid]; exact range_new _ _ _ j u h) HOne.out (by unfold maxLen; have := HLk.out; omega) (by have := HLk.out; omega) (by simp <;> omega) ?_; intro v' w1 hown' hgrow _
           have hown2 : ownL w1 (n0 + 5) v' (List.replicate (k + 1) (bdL nv)) := (by
             show World.ownsRow _ _ _ _ _ _ _
             rw [HNx.out, List.length_replicate]
             have := hown'
             rw [HLk.out] at this
             exact this)
           obtain ⟨q4, q3, hnext⟩ := HB.out.step _ hgrow hown2
           obtain ⟨pq, pn, pc, rfl⟩ := own_form hown2
           have c12' := q4.cell (j := 12) rfl
           have f12' := q4.free 12
           have HX := Lib.hid hnext
           clear hnext q4 q3 hown2 hown' hgrow))
      go_wp2_with fail
      go_roundg (64 - (k + 1))
      case measure => omega
      case rel => exact ⟨k + 1, _, by go_num, by omega, Nat.le_refl _, HX.out⟩
    · obtain rfl : k = 64 := by omega
      have hnv := HV.out
      have hown := hbd.own
      have hbody := ownL_body hown
      obtain ⟨pq, pn, pc, rfl⟩ := own_form hown
      have hvr : VastR (bdR nv 64) := rule_vast (by rw [hnv, bd_may]; decide)
      have hTx := ruText_any (bdH nv) (.slice pq pn pc) (List.replicate 64 (bdL nv)) hvr.1 hvr.2 mx wr (cell_below (by have := hbd.low; rw [HN0.out] at this; exact this) Hmx.out) hbody
      have hlen := bd_len 63 (by omega)
      have hrt : rtextR (bdH nv, List.replicate 64 (bdL nv)) = (strOfNums (ruleL (bdR nv 64)), 0) := by
        show rtextR (bdR nv 64) = _
        unfold rtextR
        rw [hnv, bd_may, if_pos (by decide), if_pos (Nat.le_trans hlen.2 (by decide))]
      rw [hrt] at hTx
      have hs64 : srcS (strOfNums (ruleL (bdR nv 64))) = .good [bdR nv 64] := by rw [hnv]; exact bd_src64
      have hz64 := strOfNums_size (ruleL (bdR nv 64))
      have hl64 : 2 ≤ (ruleL (bdR nv 64)).length ∧ (ruleL (bdR nv 64)).length ≤ 10000 := by rw [hnv]; exact hlen
      obtain ⟨T, hT⟩ : ∃ T, T = strOfNums (ruleL (bdR nv 64)) := ⟨_, rfl⟩
      rw [← hT] at hTx hs64 hz64
      have hTz : 2 ≤ T.size ∧ T.size ≤ 10000 := by omega
      obtain ⟨R, hR⟩ : ∃ R, R = (ruleC (bdH nv) (.slice pq pn pc)).toList := ⟨_, rfl⟩
      have eR : ruleC (bdH nv) (.slice pq pn pc) = R.toArray := by rw [hR]
      have hrR := hbd.fr.range
      rw [← hR] at hrR
      rw [eR] at hTx
      have hI13 : (Tryz.prog.info? 50).map (·.size) = some R.length := by rw [hR]; kernel_rfl
      have HTx := Lib.hid hTx
      have HS64 := Lib.hid hs64
      have HT64 := Lib.hid hT
      have HrR := Lib.hid hrR
      have HI13' := Lib.hid hI13
      have HBody := Lib.hid hbody
      have HR := Lib.hid hR
      have HVr := Lib.hid hvr
      have d1 : decide (((64 : Nat) : Int) < 64) = false := by decide
      have d2 : decide ((T.size : Int) < 2) = false := by simp; omega
      clear H5 hk hgk hbd hnv hown hbody hvr hTx hlen hrt hs64 hz64 hl64 hT hR eR hrR hI13
      go_upto_region 13 with (first
        | (refine wpList_load_mid rfl 50 (.tmp 5) rfl (n0 + 4) 0 rfl R _ HrR.out Tryz.underlying50 rfl HI13'.out ?_)
        | (go_at_call 11; refine HTx.out.mono ?_; rintro e z ⟨rfl, hZ⟩))
      have HBz := Lib.hid (HB.out.below hZ)
      have HBodyz := Lib.hid (HBody.out.below hZ)
      clear hZ HTx HrR
      have hOne := ruOne_any T (by omega) z (HE.out.below (by have := HBz.out.low; rw [HN0.out] at this; exact this)) (HRp.out.le HBz.out.low.size)
      rw [HS64.out] at hOne
      have hOne' : Calls Tryz.prog 12 #[.string T] z fun e w' => ∃ bq bn bc, e = .returned (.tuple #[.agg (ruleC (bdH nv) (.slice bq bn bc)), .int .i64 0]) ∧ Below z.heap.size z w' ∧ BodyS w' (.slice bq bn bc) (List.replicate 64 (bdL nv)) := hOne.mono (fun e w' h => by
        obtain ⟨hY, bv, he, ho⟩ := h
        obtain ⟨bq, bn, bc, rfl⟩ := own_form ho
        exact ⟨bq, bn, bc, he, hY, ownL_body ho⟩)
      have HOne := Lib.hid hOne'
      clear hOne'
      clear hOne
      go_upto_region 14 with (go_at_call 12; refine HOne.out.mono ?_; rintro e y ⟨bq, bn, bc, rfl, hY, ho⟩; have HBo := Lib.hid ho; have HBy := Lib.hid (HBz.out.below hY); have HBodyy := Lib.hid (HBodyz.out.below hY); clear ho hY)
      have HZb := Lib.hid (block_new y (ruleC (bdH nv) (.slice bq bn bc)) 50)
      have HB2 := Lib.hid (HBy.out.below (below_lex y (.cells (ruleC (bdH nv) (.slice bq bn bc)) 50)))
      have HBo2 := Lib.hid (HBo.out.below (below_lex y (.cells (ruleC (bdH nv) (.slice bq bn bc)) 50)))
      generalize y.alloc (.cells (ruleC (bdH nv) (.slice bq bn bc)) 50) = y2 at *
      generalize y.heap.size = gx at *
      have hown := HB2.out.own
      obtain ⟨g, cp, OL, hsl, hcp, hOL, hOr⟩ : ∃ g cp OL, Value.slice pq pn pc = .slice (some ⟨g, 0, none⟩) 64 cp ∧ 64 ≤ cp ∧ OL = flatL (List.replicate 64 (bdL nv)) ∧ y2.rangeAt g 0 OL := ownL_range hown (by simp)
      have hpq : pq = some ⟨g, 0, none⟩ ∧ pn = 64 ∧ pc = cp := by injection hsl with e1 e2 e3; exact ⟨e1, e2, e3⟩
      obtain ⟨rfl, rfl, rfl⟩ := hpq
      have hPC : y2.rangeAt (n0 + 4) 0 [.string nv, .int .i64 0, .string ⟨#[]⟩, .string ⟨#[]⟩, .string ⟨#[]⟩, .int .i64 1, .string ⟨#[112]⟩, .string ⟨#[]⟩, .string ⟨#[]⟩, .int .i64 1, .string ⟨#[112]⟩, .string ⟨#[]⟩] := fun j v hv => HB2.out.fr.range j v (by
        have hj := (List.getElem?_eq_some_iff.1 hv).1
        exact (List.getElem?_append_left (l₂ := [.slice (some ⟨g, 0, none⟩) 64 pc]) hj).trans hv)
      have hr12 := HB2.out.fr.cell (j := 12) rfl
      have hCr : y2.rangeAt (n0 + 3) 0 C := by rw [HC.out]; exact HB2.out.fl.range
      have hS : ∀ W', Below y2.heap.size y2 W' → (fun W' : World => W'.rangeAt (n0 + 4) 0 [.string nv, .int .i64 0, .string ⟨#[]⟩, .string ⟨#[]⟩, .string ⟨#[]⟩, .int .i64 1, .string ⟨#[112]⟩, .string ⟨#[]⟩, .string ⟨#[]⟩, .int .i64 1, .string ⟨#[112]⟩, .string ⟨#[]⟩] ∧ W'.cell? ⟨n0 + 4, 12, none⟩ = some (.slice (some ⟨g, 0, none⟩) 64 pc) ∧ W'.rangeAt (n0 + 3) 0 C) W' := fun W' hW' => ⟨range_below hPC hW', cell_below hW' hr12, range_below hCr hW'⟩
      have HS := Lib.hid hS
      have HOr := Lib.hid hOr
      have HOL : Hid (OL.length = 64 * 21 ∧ flatL (List.replicate 65 (bdL nv)) = OL ++ C) := Lib.hid ⟨by rw [hOL, flatL_rep], by rw [hOL, HC.out, show (65 : Nat) = 64 + 1 from rfl, List.replicate_succ', flatL_append, flatL_one]⟩
      have HOne : Hid (∀ u ∈ C, u.oneCell' = true) := Lib.hid (by rw [HC.out]; exact lit_ones (bdL nv))
      have HI12 : Hid ((Tryz.prog.info? 35).map (·.size) = some ([.string nv, .int .i64 0, .string ⟨#[]⟩, .string ⟨#[]⟩, .string ⟨#[]⟩, .int .i64 1, .string ⟨#[112]⟩, .string ⟨#[]⟩, .string ⟨#[]⟩, .int .i64 1, .string ⟨#[112]⟩, .string ⟨#[]⟩] : List Value).length) := Lib.hid (by kernel_rfl)
      clear hS hCr hr12 hPC hOr hOL hsl hown HBy HBo HBodyy HBz HBodyz
      have hcpI : (64 : Int) ≤ (pc : Int) := by omega
      have z1 : (y2.alloc (.cells C.toArray 37)).heap.size = y2.heap.size + 1 := World.size_alloc _ _
      have z2 : (y2.alloc (.cells zRuC 50)).heap.size = y2.heap.size + 1 := World.size_alloc _ _
      have HA0 : Hid (Below y2.heap.size y2 (y2.drew.alloc (.cells zRuC 50))) := Lib.hid ((Below.refl _ _).drew.alloc (Nat.le_refl _) _)
      have HA1 : Hid (Below y2.heap.size y2 (y2.drew.alloc (.cells C.toArray 37))) := Lib.hid ((Below.refl _ _).drew.alloc (Nat.le_refl _) _)
      have HA2 : Hid (Below y2.heap.size y2 ((y2.drew.alloc (.cells C.toArray 37)).alloc (.cells zRuC 50))) := Lib.hid (((Below.refl _ _).drew.alloc (Nat.le_refl _) _).alloc (by simp) _)
      have HA3 : Hid (Below y2.heap.size y2 ((y2.drew.alloc (.cells zRuC 50)).alloc (.cells C.toArray 37))) := Lib.hid (((Below.refl _ _).drew.alloc (Nat.le_refl _) _).alloc (by simp) _)
      have HN1 : Hid (∀ (j : Nat) (u : Value), C[j]? = some u → (y2.drew.alloc (.cells C.toArray 37)).cell? ((⟨y2.heap.size, 0, none⟩ : Addr).add j) = some u) := Lib.hid (fun j u h => by rw [Addr.add_mid]; exact range_new y2.drew C 37 j u h)
      have HN2 : Hid (∀ (j : Nat) (u : Value), C[j]? = some u → ((y2.drew.alloc (.cells C.toArray 37)).alloc (.cells zRuC 50)).cell? ((⟨y2.heap.size, 0, none⟩ : Addr).add j) = some u) := Lib.hid (fun j u h => by rw [Addr.add_mid]; exact range_below (range_new y2.drew C 37) (below_lex _ _) j u h)
      have HN3 : Hid (∀ (j : Nat) (u : Value), C[j]? = some u → ((y2.drew.alloc (.cells zRuC 50)).alloc (.cells C.toArray 37)).cell? ((⟨(y2.drew.alloc (.cells zRuC 50)).heap.size, 0, none⟩ : Addr).add j) = some u) := Lib.hid (fun j u h => by rw [Addr.add_mid]; exact range_new (y2.drew.alloc (.cells zRuC 50)) C 37 j u h)
      have HQ2 : Hid (BlockAt ((y2.drew.alloc (.cells C.toArray 37)).alloc (.cells zRuC 50)) (y2.drew.alloc (.cells C.toArray 37)).heap.size zRuC 50) := Lib.hid (block_new (y2.drew.alloc (.cells C.toArray 37)) zRuC 50)
      have HQ3 : Hid (BlockAt ((y2.drew.alloc (.cells zRuC 50)).alloc (.cells C.toArray 37)) y2.drew.heap.size zRuC 50) := Lib.hid ((block_new y2.drew zRuC 50).alloc _)
      clear z1 z2
      go_cut [11] (fun s11 wx => MrA y2 nv s11 wx)
      case first =>
        refine wp_region_held (S := (fun W' : World => W'.rangeAt (n0 + 4) 0 [.string nv, .int .i64 0, .string ⟨#[]⟩, .string ⟨#[]⟩, .string ⟨#[]⟩, .int .i64 1, .string ⟨#[112]⟩, .string ⟨#[]⟩, .string ⟨#[]⟩, .int .i64 1, .string ⟨#[112]⟩, .string ⟨#[]⟩] ∧ W'.cell? ⟨n0 + 4, 12, none⟩ = some (.slice (some ⟨g, 0, none⟩) 64 pc) ∧ W'.rangeAt (n0 + 3) 0 C)) (by kernel_rfl) ?_
        change wpAnyH _ _ _ _ _ _ _ _ (World.drew _)
        refine wpAnyH_take (i := 0) (v := .pointer (some ⟨n0 + 4, 0, none⟩)) rfl (by kernel_rfl) (by kernel_rfl) (by kernel_rfl) (fun _ _ _ h => h) (Or.inl ⟨by rfl, fun w hw => by (obtain ⟨_, h8, _⟩ := hw; go_simp)⟩) (HS.out _ (Below.refl _ _).drew) ?_
        simp only [Act.put, List.getElem_toArray, List.getElem_cons_succ, List.getElem_cons_zero, List.setIfInBounds_toArray, List.set_cons_zero, List.set_cons_succ]
        refine wpAnyH_take (i := 1) (v := .agg #[.string nv, .int .i64 0, .string ⟨#[]⟩, .string ⟨#[]⟩, .string ⟨#[]⟩, .int .i64 1, .string ⟨#[112]⟩, .string ⟨#[]⟩, .string ⟨#[]⟩, .int .i64 1, .string ⟨#[112]⟩, .string ⟨#[]⟩]) rfl (by kernel_rfl) (by kernel_rfl) (by kernel_rfl) (fun _ _ _ h => h) (yieldsIf_load_mid (by rfl) 35 (.tmp 55) rfl (n0 + 4) 0 rfl [.string nv, .int .i64 0, .string ⟨#[]⟩, .string ⟨#[]⟩, .string ⟨#[]⟩, .int .i64 1, .string ⟨#[112]⟩, .string ⟨#[]⟩, .string ⟨#[]⟩, .int .i64 1, .string ⟨#[112]⟩, .string ⟨#[]⟩] _ (fun w h => h.1) Tryz.underlying35 rfl HI12.out) (HS.out _ (Below.refl _ _).drew) ?_
        simp only [Act.put, List.getElem_toArray, List.getElem_cons_succ, List.getElem_cons_zero, List.setIfInBounds_toArray, List.set_cons_zero, List.set_cons_succ]
        refine wpAnyH_take (i := 2) (v := .pointer (some ⟨n0 + 4, 12, none⟩)) rfl (by kernel_rfl) (by kernel_rfl) (by kernel_rfl) (fun _ _ _ h => h) (Or.inl ⟨by rfl, fun w hw => by (obtain ⟨_, h8, _⟩ := hw; go_simp)⟩) (HS.out _ (Below.refl _ _).drew) ?_
        simp only [Act.put, List.getElem_toArray, List.getElem_cons_succ, List.getElem_cons_zero, List.setIfInBounds_toArray, List.set_cons_zero, List.set_cons_succ]
        refine wpAnyH_take (i := 3) (v := .slice (some ⟨g, 0, none⟩) 64 pc) rfl (by kernel_rfl) (by kernel_rfl) (by kernel_rfl) (fun _ _ _ h => h) (Or.inl ⟨by rfl, fun w hw => by (obtain ⟨_, h8, _⟩ := hw; go_simp)⟩) (HS.out _ (Below.refl _ _).drew) ?_
        simp only [Act.put, List.getElem_toArray, List.getElem_cons_succ, List.getElem_cons_zero, List.setIfInBounds_toArray, List.set_cons_zero, List.set_cons_succ]
        refine wpAnyH_take (i := 4) (v := .pointer (some ⟨n0 + 4, 12, none⟩)) rfl (by kernel_rfl) (by kernel_rfl) (by kernel_rfl) (fun _ _ _ h => h) (Or.inl ⟨by rfl, fun w hw => by (obtain ⟨_, h8, _⟩ := hw; go_simp)⟩) (HS.out _ (Below.refl _ _).drew) ?_
        simp only [Act.put, List.getElem_toArray, List.getElem_cons_succ, List.getElem_cons_zero, List.setIfInBounds_toArray, List.set_cons_zero, List.set_cons_succ]
        refine wpAnyH_take (i := 5) (v := .slice (some ⟨g, 0, none⟩) 64 pc) rfl (by kernel_rfl) (by kernel_rfl) (by kernel_rfl) (fun _ _ _ h => h) (Or.inl ⟨by rfl, fun w hw => by (obtain ⟨_, h8, _⟩ := hw; go_simp)⟩) (HS.out _ (Below.refl _ _).drew) ?_
        simp only [Act.put, List.getElem_toArray, List.getElem_cons_succ, List.getElem_cons_zero, List.setIfInBounds_toArray, List.set_cons_zero, List.set_cons_succ]
        refine wpAnyH_take (i := 6) (v := .int .i64 64) rfl (by kernel_rfl) (by kernel_rfl) (by kernel_rfl) (fun _ _ _ h => h) (Or.inl ⟨by rfl, fun w hw => by (obtain ⟨_, h8, _⟩ := hw; go_simp)⟩) (HS.out _ (Below.refl _ _).drew) ?_
        simp only [Act.put, List.getElem_toArray, List.getElem_cons_succ, List.getElem_cons_zero, List.setIfInBounds_toArray, List.set_cons_zero, List.set_cons_succ]
        refine wpAnyH_take (i := 7) (v := .pointer (some ⟨n0 + 4, 12, none⟩)) rfl (by kernel_rfl) (by kernel_rfl) (by kernel_rfl) (fun _ _ _ h => h) (Or.inl ⟨by rfl, fun w hw => by (obtain ⟨_, h8, _⟩ := hw; go_simp)⟩) (HS.out _ (Below.refl _ _).drew) ?_
        simp only [Act.put, List.getElem_toArray, List.getElem_cons_succ, List.getElem_cons_zero, List.setIfInBounds_toArray, List.set_cons_zero, List.set_cons_succ]
        refine wpAnyH_take (i := 8) (v := .slice (some ⟨g, 0, none⟩) 64 pc) rfl (by kernel_rfl) (by kernel_rfl) (by kernel_rfl) (fun _ _ _ h => h) (Or.inl ⟨by rfl, fun w hw => by (obtain ⟨_, h8, _⟩ := hw; go_simp)⟩) (HS.out _ (Below.refl _ _).drew) ?_
        simp only [Act.put, List.getElem_toArray, List.getElem_cons_succ, List.getElem_cons_zero, List.setIfInBounds_toArray, List.set_cons_zero, List.set_cons_succ]
        refine wpAnyH_take (i := 9) (v := .int .i64 64) rfl (by kernel_rfl) (by kernel_rfl) (by kernel_rfl) (fun _ _ _ h => h) (Or.inl ⟨by rfl, fun w hw => by (obtain ⟨_, h8, _⟩ := hw; go_simp)⟩) (HS.out _ (Below.refl _ _).drew) ?_
        simp only [Act.put, List.getElem_toArray, List.getElem_cons_succ, List.getElem_cons_zero, List.setIfInBounds_toArray, List.set_cons_zero, List.set_cons_succ]
        refine wpAnyH_take (i := 10) (v := .slice (some ⟨g, 0, none⟩) 64 64) rfl (by kernel_rfl) (by kernel_rfl) (by kernel_rfl) (fun _ _ _ h => h) (Or.inl ⟨by rfl, fun w hw => by (obtain ⟨_, h8, _⟩ := hw; go_simp)⟩) (HS.out _ (Below.refl _ _).drew) ?_
        simp only [Act.put, List.getElem_toArray, List.getElem_cons_succ, List.getElem_cons_zero, List.setIfInBounds_toArray, List.set_cons_zero, List.set_cons_succ]
        refine wpAnyH_take (i := 11) (v := .agg C.toArray) rfl (by kernel_rfl) (by kernel_rfl) (by kernel_rfl) (fun _ _ _ h => h) (yieldsIf_load_mid (by rfl) 37 (.tmp 4) rfl (n0 + 3) 0 rfl C _ (fun w h => h.2.2) Tryz.underlying37 rfl HSz.out) (HS.out _ (Below.refl _ _).drew) ?_
        simp only [Act.put, List.getElem_toArray, List.getElem_cons_succ, List.getElem_cons_zero, List.setIfInBounds_toArray, List.set_cons_zero, List.set_cons_succ]
        refine wpAnyH_ready (rs := [12, 15]) (by kernel_rfl) (by simp) ?_
        refine' AllReadyH.cons (i := 12) ?ho1 ?st1 ?mo1
        case ho1 => rfl
        case st1 =>
          intro K2
          intro hK2
          rw [if_pos (by rfl)]
          refine wp_buildOne 48 37 (.tmp 66) rfl C rfl Tryz.underlying48 HSz.out HZi.out hp1 hp2 ?_
          refine (Shut.out hK2) _ _ (HS.out _ HA1.out) (fun _ => ?_)
          simp only [Act.put, List.getElem_toArray, List.getElem_cons_succ, List.getElem_cons_zero, List.setIfInBounds_toArray, List.set_cons_zero, List.set_cons_succ]
          refine wpAnyH_ready (rs := [13, 15]) (by kernel_rfl) (by simp) ?_
          refine' AllReadyH.cons (i := 13) ?ho2 ?st2 ?mo2
          case ho2 => rfl
          case st2 =>
            intro K2
            intro hK2
            refine step_append_grows rfl (.tmp 65) (.tmp 67) 48 rfl 37 i0 z0 21 288 Tryz.underlying48 HI.out HZ0.out HZ1.out HZ2.out HZ3.out (by decide) (some ⟨g, 0, none⟩) 64 64 OL rfl (by simp) HOL.out.1 (holds_of HOr.out HA1.out) ⟨y2.heap.size, 0, none⟩ 1 1 C rfl (by rw [hCl]) HN1.out HOne.out (by decide) (by decide) (by decide) ?_
            intro v' w' hown' hgrow
            obtain ⟨pq', pn', pc', rfl, ho', hB'⟩ := mr_grown HA1.out hown' hgrow HOL.out.1 HOL.out.2
            refine (Shut.out hK2) _ _ (HS.out _ hB') (fun _ => ?_)
            simp only [Act.put, List.getElem_toArray, List.getElem_cons_succ, List.getElem_cons_zero, List.setIfInBounds_toArray, List.set_cons_zero, List.set_cons_succ]
            refine wpAnyH_take (i := 14) (v := .agg #[.string nv, .int .i64 0, .string ⟨#[]⟩, .string ⟨#[]⟩, .string ⟨#[]⟩, .int .i64 1, .string ⟨#[112]⟩, .string ⟨#[]⟩, .string ⟨#[]⟩, .int .i64 1, .string ⟨#[112]⟩, .string ⟨#[]⟩, .slice pq' pn' pc']) rfl (by kernel_rfl) (by kernel_rfl) (by kernel_rfl) (fun _ _ _ h => h) (Or.inl ⟨by rfl, fun w hw => by go_simp⟩) (HS.out _ hB') ?_
            simp only [Act.put, List.getElem_toArray, List.getElem_cons_succ, List.getElem_cons_zero, List.setIfInBounds_toArray, List.set_cons_zero, List.set_cons_succ]
            refine wpAnyH_ready (rs := [15]) (by kernel_rfl) (by simp) ?_
            refine' AllReadyH.cons (i := 15) ?ho3 ?st3 AllReadyH.nil
            case ho3 => rfl
            intro K2
            intro hK2
            rw [if_pos (by rfl)]
            refine wp_allocT 50 rfl _ _ (run_allocR _) ?_
            refine (Shut.out hK2) _ _ (HS.out _ (hB'.alloc hB'.size _)) (fun _ => ?_)
            simp only [Act.put, List.getElem_toArray, List.getElem_cons_succ, List.getElem_cons_zero, List.setIfInBounds_toArray, List.set_cons_zero, List.set_cons_succ]
            refine wpAnyH_ready (rs := [16]) (by kernel_rfl) (by simp) ?_
            refine' AllReadyH.cons (i := 16) ?ho4 ?st4 AllReadyH.nil
            case ho4 => rfl
            intro K2
            intro hK2
            rw [if_pos (by rfl)]
            refine wp_store_mid 50 (.tmp 11) (.tmp 69) rfl w'.heap.size 0 #[.string nv, .int .i64 0, .string ⟨#[]⟩, .string ⟨#[]⟩, .string ⟨#[]⟩, .int .i64 1, .string ⟨#[112]⟩, .string ⟨#[]⟩, .string ⟨#[]⟩, .int .i64 1, .string ⟨#[112]⟩, .string ⟨#[]⟩, .slice pq' pn' pc'] rfl rfl (thereR (block_new w' zRuC 50)) HI13.out (ruleC_all (bdH nv) pq' pn' pc') ?_
            refine (Shut.out hK2) _ _ (HS.out _ (below_putR (hB'.alloc hB'.size _) (by have := hB'.size; simp <;> omega) hB'.size _)) (fun _ => ?_)
            simp only [Act.put, List.getElem_toArray, List.getElem_cons_succ, List.getElem_cons_zero, List.setIfInBounds_toArray, List.set_cons_zero, List.set_cons_succ]
            refine wpAnyH_done (by kernel_rfl) ?_ _
            simp only [Exit.then]
            refine ‹∀ (a' : Act) (w' : World), Met _ a' w' → _› _ _ ?_
            go_meet
            exact ⟨w'.heap.size, pq', pn', pc', rfl, (block_new w' zRuC 50).putAll (ruleC (bdH nv) (.slice pq' pn' pc')) rfl, ownL_body (own_keepR ho' (below_putR (below_lex w' (.cells zRuC 50)) (by simp <;> omega) (Nat.le_refl _) _)), below_putR (hB'.alloc hB'.size _) (by have := hB'.size; simp <;> omega) hB'.size _⟩
          case mo2 =>
            refine' AllReadyH.cons (i := 15) ?ho5 ?st5 AllReadyH.nil
            case ho5 => rfl
            intro K2
            intro hK2
            rw [if_pos (by rfl)]
            refine wp_allocT 50 rfl _ _ (run_allocR _) ?_
            refine (Shut.out hK2) _ _ (HS.out _ HA2.out) (fun _ => ?_)
            simp only [Act.put, List.getElem_toArray, List.getElem_cons_succ, List.getElem_cons_zero, List.setIfInBounds_toArray, List.set_cons_zero, List.set_cons_succ]
            refine wpAnyH_ready (rs := [13]) (by kernel_rfl) (by simp) ?_
            refine' AllReadyH.cons (i := 13) ?ho6 ?st6 AllReadyH.nil
            case ho6 => rfl
            intro K2
            intro hK2
            refine step_append_grows rfl (.tmp 65) (.tmp 67) 48 rfl 37 i0 z0 21 288 Tryz.underlying48 HI.out HZ0.out HZ1.out HZ2.out HZ3.out (by decide) (some ⟨g, 0, none⟩) 64 64 OL rfl (by simp) HOL.out.1 (holds_of HOr.out HA2.out) ⟨y2.heap.size, 0, none⟩ 1 1 C rfl (by rw [hCl]) HN2.out HOne.out (by decide) (by decide) (by decide) ?_
            intro v' w' hown' hgrow
            obtain ⟨pq', pn', pc', rfl, ho', hB'⟩ := mr_grown HA2.out hown' hgrow HOL.out.1 HOL.out.2
            refine (Shut.out hK2) _ _ (HS.out _ hB') (fun _ => ?_)
            simp only [Act.put, List.getElem_toArray, List.getElem_cons_succ, List.getElem_cons_zero, List.setIfInBounds_toArray, List.set_cons_zero, List.set_cons_succ]
            have hk' := block_grown HQ2.out hgrow
            refine wpAnyH_take (i := 14) (v := .agg #[.string nv, .int .i64 0, .string ⟨#[]⟩, .string ⟨#[]⟩, .string ⟨#[]⟩, .int .i64 1, .string ⟨#[112]⟩, .string ⟨#[]⟩, .string ⟨#[]⟩, .int .i64 1, .string ⟨#[112]⟩, .string ⟨#[]⟩, .slice pq' pn' pc']) rfl (by kernel_rfl) (by kernel_rfl) (by kernel_rfl) (fun _ _ _ h => h) (Or.inl ⟨by rfl, fun w hw => by go_simp⟩) (HS.out _ hB') ?_
            simp only [Act.put, List.getElem_toArray, List.getElem_cons_succ, List.getElem_cons_zero, List.setIfInBounds_toArray, List.set_cons_zero, List.set_cons_succ]
            refine wpAnyH_ready (rs := [16]) (by kernel_rfl) (by simp) ?_
            refine' AllReadyH.cons (i := 16) ?ho7 ?st7 AllReadyH.nil
            case ho7 => rfl
            intro K2
            intro hK2
            rw [if_pos (by rfl)]
            refine wp_store_mid 50 (.tmp 11) (.tmp 69) rfl (y2.drew.alloc (.cells C.toArray 37)).heap.size 0 #[.string nv, .int .i64 0, .string ⟨#[]⟩, .string ⟨#[]⟩, .string ⟨#[]⟩, .int .i64 1, .string ⟨#[112]⟩, .string ⟨#[]⟩, .string ⟨#[]⟩, .int .i64 1, .string ⟨#[112]⟩, .string ⟨#[]⟩, .slice pq' pn' pc'] rfl rfl (thereR hk') HI13.out (ruleC_all (bdH nv) pq' pn' pc') ?_
            refine (Shut.out hK2) _ _ (HS.out _ (below_putR hB' hB'.size (by simp) _)) (fun _ => ?_)
            simp only [Act.put, List.getElem_toArray, List.getElem_cons_succ, List.getElem_cons_zero, List.setIfInBounds_toArray, List.set_cons_zero, List.set_cons_succ]
            refine wpAnyH_done (by kernel_rfl) ?_ _
            simp only [Exit.then]
            refine ‹∀ (a' : Act) (w' : World), Met _ a' w' → _› _ _ ?_
            go_meet
            exact ⟨(y2.drew.alloc (.cells C.toArray 37)).heap.size, pq', pn', pc', rfl, hk'.putAll (ruleC (bdH nv) (.slice pq' pn' pc')) rfl, ownL_body (owns_moves ho' (moves_setCells (g := (y2.drew.alloc (.cells C.toArray 37)).heap.size) (ruleC (bdH nv) (.slice pq' pn' pc')).toList 0 w') (by simp <;> omega)), below_putR hB' hB'.size (by simp) _⟩
        case mo1 =>
          refine' AllReadyH.cons (i := 15) ?ho8 ?st8 AllReadyH.nil
          case ho8 => rfl
          intro K2
          intro hK2
          rw [if_pos (by rfl)]
          refine wp_allocT 50 rfl _ _ (run_allocR _) ?_
          refine (Shut.out hK2) _ _ (HS.out _ HA0.out) (fun _ => ?_)
          simp only [Act.put, List.getElem_toArray, List.getElem_cons_succ, List.getElem_cons_zero, List.setIfInBounds_toArray, List.set_cons_zero, List.set_cons_succ]
          refine wpAnyH_ready (rs := [12]) (by kernel_rfl) (by simp) ?_
          refine' AllReadyH.cons (i := 12) ?ho9 ?st9 AllReadyH.nil
          case ho9 => rfl
          intro K2
          intro hK2
          rw [if_pos (by rfl)]
          refine wp_buildOne 48 37 (.tmp 66) rfl C rfl Tryz.underlying48 HSz.out HZi.out hp1 hp2 ?_
          refine (Shut.out hK2) _ _ (HS.out _ HA3.out) (fun _ => ?_)
          simp only [Act.put, List.getElem_toArray, List.getElem_cons_succ, List.getElem_cons_zero, List.setIfInBounds_toArray, List.set_cons_zero, List.set_cons_succ]
          refine wpAnyH_ready (rs := [13]) (by kernel_rfl) (by simp) ?_
          refine' AllReadyH.cons (i := 13) ?ho10 ?st10 AllReadyH.nil
          case ho10 => rfl
          intro K2
          intro hK2
          refine step_append_grows rfl (.tmp 65) (.tmp 67) 48 rfl 37 i0 z0 21 288 Tryz.underlying48 HI.out HZ0.out HZ1.out HZ2.out HZ3.out (by decide) (some ⟨g, 0, none⟩) 64 64 OL rfl (by simp) HOL.out.1 (holds_of HOr.out HA3.out) ⟨(y2.drew.alloc (.cells zRuC 50)).heap.size, 0, none⟩ 1 1 C rfl (by rw [hCl]) HN3.out HOne.out (by decide) (by decide) (by decide) ?_
          intro v' w' hown' hgrow
          obtain ⟨pq', pn', pc', rfl, ho', hB'⟩ := mr_grown HA3.out hown' hgrow HOL.out.1 HOL.out.2
          refine (Shut.out hK2) _ _ (HS.out _ hB') (fun _ => ?_)
          simp only [Act.put, List.getElem_toArray, List.getElem_cons_succ, List.getElem_cons_zero, List.setIfInBounds_toArray, List.set_cons_zero, List.set_cons_succ]
          have hk' := block_grown HQ3.out hgrow
          refine wpAnyH_take (i := 14) (v := .agg #[.string nv, .int .i64 0, .string ⟨#[]⟩, .string ⟨#[]⟩, .string ⟨#[]⟩, .int .i64 1, .string ⟨#[112]⟩, .string ⟨#[]⟩, .string ⟨#[]⟩, .int .i64 1, .string ⟨#[112]⟩, .string ⟨#[]⟩, .slice pq' pn' pc']) rfl (by kernel_rfl) (by kernel_rfl) (by kernel_rfl) (fun _ _ _ h => h) (Or.inl ⟨by rfl, fun w hw => by go_simp⟩) (HS.out _ hB') ?_
          simp only [Act.put, List.getElem_toArray, List.getElem_cons_succ, List.getElem_cons_zero, List.setIfInBounds_toArray, List.set_cons_zero, List.set_cons_succ]
          refine wpAnyH_ready (rs := [16]) (by kernel_rfl) (by simp) ?_
          refine' AllReadyH.cons (i := 16) ?ho11 ?st11 AllReadyH.nil
          case ho11 => rfl
          intro K2
          intro hK2
          rw [if_pos (by rfl)]
          refine wp_store_mid 50 (.tmp 11) (.tmp 69) rfl y2.drew.heap.size 0 #[.string nv, .int .i64 0, .string ⟨#[]⟩, .string ⟨#[]⟩, .string ⟨#[]⟩, .int .i64 1, .string ⟨#[112]⟩, .string ⟨#[]⟩, .string ⟨#[]⟩, .int .i64 1, .string ⟨#[112]⟩, .string ⟨#[]⟩, .slice pq' pn' pc'] rfl rfl (thereR hk') HI13.out (ruleC_all (bdH nv) pq' pn' pc') ?_
          refine (Shut.out hK2) _ _ (HS.out _ (below_putR hB' hB'.size (Nat.le_refl _) _)) (fun _ => ?_)
          simp only [Act.put, List.getElem_toArray, List.getElem_cons_succ, List.getElem_cons_zero, List.setIfInBounds_toArray, List.set_cons_zero, List.set_cons_succ]
          refine wpAnyH_done (by kernel_rfl) ?_ _
          simp only [Exit.then]
          refine ‹∀ (a' : Act) (w' : World), Met _ a' w' → _› _ _ ?_
          go_meet
          exact ⟨y2.drew.heap.size, pq', pn', pc', rfl, hk'.putAll (ruleC (bdH nv) (.slice pq' pn' pc')) rfl, ownL_body (owns_moves ho' (moves_setCells (g := y2.drew.heap.size) (ruleC (bdH nv) (.slice pq' pn' pc')).toList 0 w') (by simp <;> omega)), below_putR hB' hB'.size (Nat.le_refl _) _⟩
      case rest =>
        obtain ⟨g', q', n', c', rfl, hbm, hbody, hY⟩ := hcut
        have HB3 := Lib.hid (HB2.out.below hY)
        have HX3 := Lib.hid (HZb.out.kept hY)
        have HBo3 := Lib.hid (HBo2.out.below hY)
        have HBr3 := Lib.hid (ownL_body HB3.out.own)
        have hnvV := HV.out
        have hVl : VastL (bdL nv) := HVr.out.2 _ (by show bdL nv ∈ List.replicate 64 (bdL nv); simp)
        have hTx := ruText_any (bdH nv) (.slice q' n' c') (List.replicate 65 (bdL nv)) HVr.out.1 (fun l hl => by rw [List.eq_of_mem_replicate hl]; exact hVl) mx wc (cell_below (by have := HB3.out.low; rw [HN0.out] at this; exact this) Hmx.out) hbody
        have hrt : rtextR (bdH nv, List.replicate 65 (bdL nv)) = (⟨#[]⟩, 2) := by
          show rtextR (bdR nv 65) = _
          unfold rtextR
          rw [hnvV, bd_may, if_neg (by decide)]
        rw [hrt] at hTx
        obtain ⟨M, hM⟩ : ∃ M, M = (ruleC (bdH nv) (.slice q' n' c')).toList := ⟨_, rfl⟩
        have eM : ruleC (bdH nv) (.slice q' n' c') = M.toArray := by rw [hM]
        have hrM := hbm.range
        rw [← hM] at hrM
        rw [eM] at hTx
        have HIM : Hid ((Tryz.prog.info? 50).map (·.size) = some M.length) := Lib.hid (by rw [hM]; kernel_rfl)
        have HTx := Lib.hid hTx
        have HrM := Lib.hid hrM
        have hpt : partR (bdL nv) = (litT (bdL nv), 0) := by
          unfold partR
          rw [if_pos (by rw [hnvV]; exact bd_lit)]
        obtain ⟨PT, hPT⟩ : ∃ PT, PT = litT (bdL nv) := ⟨_, rfl⟩
        have HPt : Hid (∀ W, Below w.heap.size w W → Calls Tryz.prog 13 #[.agg C.toArray] W fun e w' => e = .returned (.tuple #[.string PT, .int .i64 0]) ∧ Below W.heap.size W w') := Lib.hid (fun W hW => by
          have := ruPartText_any (bdL nv) hVl mx W (cell_below hW Hmx.out)
          rw [hpt] at this
          rw [HC.out, hPT]
          exact this)
        obtain ⟨tm, htm⟩ : ∃ tm, T.size = tm + 2 := ⟨T.size - 2, by omega⟩
        have HCat := Lib.hid (bd_concat HT64.out hPT htm)
        have hPs : PT.size ≤ 75500 := by rw [hPT]; exact litT_len (by rw [hnvV]; exact bd_lit)
        have HOne5 : Hid (∀ W, Below w.heap.size w W → Calls Tryz.prog 12 #[.string (((T.extract 0 tm ++ ⟨#[44, 32]⟩) ++ PT) ++ ⟨#[32, 46]⟩)] W fun e w' => e = .returned (.tuple #[.agg (ruleC zPa nilS), .int .i64 4]) ∧ Below W.heap.size W w') := Lib.hid (fun W hW => by
          have hz : (((T.extract 0 tm ++ ⟨#[44, 32]⟩) ++ PT) ++ ⟨#[32, 46]⟩).size ≤ 1000000000 := by
            have e1 : (⟨#[44, 32]⟩ : ByteArray).size = 2 := rfl
            have e2 : (⟨#[32, 46]⟩ : ByteArray).size = 2 := rfl
            simp only [ByteArray.size_append, ByteArray.size_extract, e1, e2]
            omega
          have := ruOne_any _ hz W (HE.out.below hW) (HRp.out.le hW.size)
          obtain ⟨pp, hp⟩ := bd_src65
          rw [HCat.out, hnvV, hp] at this
          rw [HCat.out, hnvV]
          exact this.mono (fun e w' h => ⟨h.2, h.1⟩))
        have HLw := Lib.hid (show Below w.heap.size w wc by have := HB3.out.low; rw [HN0.out] at this; exact this)
        have HHn : Hid (n0 = w.heap.size) := HN0
        clear hTx hrt hM eM hrM hpt hVl hnvV hbm hbody hPT
        go_upto_region 16 with (first
          | (refine wpList_load_mid rfl 50 (.tmp 11) rfl g' 0 rfl M _ HrM.out Tryz.underlying50 rfl HIM.out ?_)
          | (go_at_call 11; refine HTx.out.mono ?_; rintro e z1 ⟨rfl, hZ1⟩))
        have HL1 := Lib.hid (HLw.out.trans (hZ1.mono HLw.out.size))
        have HB4 := Lib.hid (HB3.out.below hZ1)
        have HX4 := Lib.hid (HX3.out.kept hZ1)
        have HBo4 := Lib.hid (HBo3.out.below hZ1)
        have HBr4 := Lib.hid (HBr3.out.below hZ1)
        have HrC : Hid (z1.rangeAt (n0 + 3) 0 C) := Lib.hid (by rw [HC.out]; exact HB4.out.fl.range)
        clear hZ1 HB3 HX3 HBo3 HBr3 HTx HrM
        go_upto_region 17 with (first
          | (refine wpList_load_mid rfl 37 (.tmp 4) rfl (n0 + 3) 0 rfl C _ HrC.out Tryz.underlying37 rfl HSz.out ?_)
          | (go_at_call 13; refine (HPt.out _ HL1.out).mono ?_; rintro e z2 ⟨rfl, hZ2⟩))
        have HL2 := Lib.hid (HL1.out.trans (hZ2.mono HL1.out.size))
        have HB5 := Lib.hid (HB4.out.below hZ2)
        have HX5 := Lib.hid (HX4.out.kept hZ2)
        have HBo5 := Lib.hid (HBo4.out.below hZ2)
        have HBr5 := Lib.hid (HBr4.out.below hZ2)
        clear hZ2 HB4 HX4 HBo4 HBr4 HrC
        have hsl17 := slice_first T tm (by omega)
        obtain ⟨E, hE⟩ : ∃ E, E = T.extract 0 tm := ⟨_, rfl⟩
        have hEz : E.size = tm := by rw [hE]; simp <;> omega
        rw [← hE] at hsl17 HOne5 HCat
        have hsub : (T.size : Int) - 2 = (tm : Int) := by omega
        have s1 : ¬ 9223372036854775807 < E.size + 2 := by omega
        have s2 : ¬ 9223372036854775807 < E.size + 2 + PT.size := by omega
        have s3 : ¬ 9223372036854775807 < E.size + 2 + PT.size + 2 := by omega
        have HEz := Lib.hid hEz
        have HTz := Lib.hid htm
        clear hE hEz htm
        go_upto_region 18 with (go_at_call 12; refine (HOne5.out _ HL2.out).mono ?_; rintro e z3 ⟨rfl, hZ3⟩)
        have HL3 := Lib.hid ((HL2.out.trans (hZ3.mono HL2.out.size)).trans ((below_lex z3 (.cells (ruleC zPa nilS) 50)).mono (HL2.out.trans (hZ3.mono HL2.out.size)).size))
        have hZ4 : Below z2.heap.size z2 (z3.alloc (.cells (ruleC zPa nilS) 50)) := hZ3.alloc hZ3.size _
        have HB6 := Lib.hid (HB5.out.below hZ4)
        have HX6 := Lib.hid (HX5.out.kept hZ4)
        have HBo6 := Lib.hid (HBo5.out.below hZ4)
        have HBr6 := Lib.hid (HBr5.out.below hZ4)
        generalize z3.alloc (.cells (ruleC zPa nilS) 50) = z4 at *
        clear hZ3 hZ4 HB5 HX5 HBo5 HBr5 s1 s2 s3 hsub hsl17
        have HSm : Hid (Calls Tryz.prog 14 #[.agg (ruleC (bdH nv) (.slice bq bn bc)), .agg (ruleC (bdH nv) (.slice (some ⟨g, 0, none⟩) 64 pc))] z4 fun e w' => e = .returned (.bool true) ∧ Below z4.heap.size z4 w') := Lib.hid (by
          have := refSame_any (bdH nv) (bdH nv) _ _ _ _ z4 HBo6.out HBr6.out
          rw [decide_eq_true rfl, decide_eq_true rfl] at this
          exact this)
        have HI4 : Hid ((Tryz.prog.info? 33).map (·.size) = some 4) := Lib.hid (by kernel_rfl)
        have HM0 : Hid (∀ W, Below w.heap.size w W → Calls Tryz.prog 15 #[.agg #[.string nv, .int .i64 0, .string ⟨#[]⟩, .string ⟨#[]⟩]] W fun e w' => e = .returned (.bool true) ∧ Below W.heap.size W w') := Lib.hid (fun W hW => by
          have hs : slotB (bdV nv) = true := by rw [HV.out]; exact bd_slots.1
          have := ruSlot_any (bdV nv) (by rw [HV.out]; exact ⟨by unfold VastS; decide +kernel, by unfold VastS; decide +kernel, by unfold VastS; decide +kernel⟩) mx W (cell_below hW Hmx.out)
          rw [hs] at this
          exact this)
        have HM1 : Hid (∀ W, Below w.heap.size w W → Calls Tryz.prog 15 #[.agg #[.string nw, .int .i64 0, .string ⟨#[]⟩, .string ⟨#[]⟩]] W fun e w' => e = .returned (.bool false) ∧ Below W.heap.size W w') := Lib.hid (fun W hW => by
          have hs : slotB (bdV nw) = false := by rw [HW.out]; exact bd_slots.2.1
          have := ruSlot_any (bdV nw) (by rw [HW.out]; exact ⟨by unfold VastS; decide +kernel, by unfold VastS; decide +kernel, by unfold VastS; decide +kernel⟩) mx W (cell_below hW Hmx.out)
          rw [hs] at this
          exact this)
        have HM2 : Hid (∀ W, Below w.heap.size w W → Calls Tryz.prog 15 #[.agg #[.string ⟨#[]⟩, .int .i64 0, .string ⟨#[]⟩, .string ⟨#[]⟩]] W fun e w' => e = .returned (.bool false) ∧ Below W.heap.size W w') := Lib.hid (fun W hW => by
          have hs : slotB zSl = false := by exact bd_slots.2.2.1
          have := ruSlot_any zSl (by skip; exact ⟨by unfold VastS; decide +kernel, by unfold VastS; decide +kernel, by unfold VastS; decide +kernel⟩) mx W (cell_below hW Hmx.out)
          rw [hs] at this
          exact this)
        have HM3 : Hid (∀ W, Below w.heap.size w W → Calls Tryz.prog 15 #[.agg #[.string ⟨#[97]⟩, .int .i64 1, .string ⟨#[112]⟩, .string ⟨#[]⟩]] W fun e w' => e = .returned (.bool false) ∧ Below W.heap.size W w') := Lib.hid (fun W hW => by
          have hs : slotB ((⟨#[97]⟩ : ByteArray), bdP.2) = false := by exact bd_slots.2.2.2
          have := ruSlot_any ((⟨#[97]⟩ : ByteArray), bdP.2) (by skip; exact ⟨by unfold VastS; decide +kernel, by unfold VastS; decide +kernel, by unfold VastS; decide +kernel⟩) mx W (cell_below hW Hmx.out)
          rw [hs] at this
          exact this)
        have HKn := Lib.hid (fun W (h : Below w.heap.size w W) => known6_any W (HE.out.below h) (HRp.out.le h.size))
        go_wp2_with (first
          | (go_at_call 10; refine (num6_any _ _).mono ?_; rintro e y7 ⟨rfl, rfl⟩)
          | (refine wpList_load_wantR (by rfl) 50 (.tmp 9) rfl gx 0 rfl (ruleC (bdH nv) (.slice bq bn bc)).toList _ HX6.out.range Tryz.underlying50 rfl HI13.out ?_)
          | (refine wpList_load_wantR (by rfl) 50 (.tmp 5) rfl (n0 + 4) 0 rfl (ruleC (bdH nv) (.slice (some ⟨g, 0, none⟩) 64 pc)).toList _ HB6.out.fr.range Tryz.underlying50 rfl HI13.out ?_)
          | (go_at_call 14; refine HSm.out.mono ?_; rintro e z5 ⟨rfl, hZ5⟩; have HL5 := Lib.hid (HL3.out.trans (hZ5.mono HL3.out.size)); have HB7 := Lib.hid (HB6.out.below hZ5))
          | (refine wpList_load_wantR (by rfl) 33 (.tmp 2) rfl (n0 + 1) 0 rfl (slotC (bdV nv)).toList _ HB7.out.fv.range Tryz.underlying33 rfl HI4.out ?_)
          | (go_at_call 15; with_reducible refine (HM0.out _ HL5.out).mono ?_; rintro e z6 ⟨rfl, hZ6⟩; have HL6 := Lib.hid (HL5.out.trans (hZ6.mono HL5.out.size)); have HB8 := Lib.hid (HB7.out.below hZ6))
          | (refine wpList_load_wantR (by rfl) 33 (.tmp 3) rfl (n0 + 2) 0 rfl (slotC (bdV nw)).toList _ HB8.out.fw.range Tryz.underlying33 rfl HI4.out ?_)
          | (go_at_call 15; with_reducible refine (HM1.out _ HL6.out).mono ?_; rintro e z7 ⟨rfl, hZ7⟩; have HL7 := Lib.hid (HL6.out.trans (hZ7.mono HL6.out.size)); have HB9 := Lib.hid (HB8.out.below hZ7))
          | (go_at_call 15; with_reducible refine (HM2.out _ HL7.out).mono ?_; rintro e z8 ⟨rfl, hZ8⟩; have HL8 := Lib.hid (HL7.out.trans (hZ8.mono HL7.out.size)); have hBa := HB9.out.below hZ8; have p1 := hBa.fp.cell (j := 1) rfl; have p2 := hBa.fp.cell (j := 2) rfl; have p3 := hBa.fp.cell (j := 3) rfl; clear hBa)
          | (go_at_call 15; with_reducible refine (HM3.out _ HL8.out).mono ?_; rintro e z9 ⟨rfl, hZ9⟩; have HL9 := Lib.hid (HL8.out.trans (hZ9.mono HL8.out.size)))
          | (go_at_call 6; refine (HKn.out _ HL9.out).mono ?_; rintro e za ⟨rfl, hZa⟩))
        go_ret
        exact ⟨rfl, HL9.out.trans (hZa.mono HL9.out.size)⟩
end Go.Proofs.YtbcoklbfebmpoaaGreatDoor

