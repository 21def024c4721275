/-
  WHAT THE PROOF STANDS ON, a part of it: RuTexts, RuTexts2, RuRefSame.
-/
import Derived.Test.YtbcoklbfebmpoaaGreatDoorU27
import Derived.Great.BuildSlice
import Derived.Test.YtbcoklbfebmpoaaGreatDoorU24
import Derived.Deep.LoopGhost
import Derived.WalkKit
/-
  CONTRACTS OF rules.ruleText, written, Text, PartText.
-/

namespace Go.Proofs.YtbcoklbfebmpoaaGreatDoor
open Go.RowKit
open Utf Term
set_option linter.unusedVariables false
set_option linter.unusedSimpArgs false

theorem RuleAt.range {W : World} {g o : Nat} {p : PatD} {v : Value} (h : RuleAt W g o p v) : W.rangeAt g o (ruleC p v).toList := fun c u hu => by
  obtain ⟨h0, h1, h2, h3, h4, h5, h6, h7, h8, h9, h10, h11, h12⟩ := h
  have hc : c < 13 := (List.getElem?_eq_some_iff.1 hu).1
  match c, hc with
  | 0, _ => cases hu; exact h0
  | 1, _ => cases hu; exact h1
  | 2, _ => cases hu; exact h2
  | 3, _ => cases hu; exact h3
  | 4, _ => cases hu; exact h4
  | 5, _ => cases hu; exact h5
  | 6, _ => cases hu; exact h6
  | 7, _ => cases hu; exact h7
  | 8, _ => cases hu; exact h8
  | 9, _ => cases hu; exact h9
  | 10, _ => cases hu; exact h10
  | 11, _ => cases hu; exact h11
  | 12, _ => cases hu; exact h12
  | n + 13, h => omega
theorem ruleC_one (p : PatD) (q : Option Addr) (n c : Nat) : (ruleC p (.slice q n c)).toList.toArray.all (·.oneCell') = true := by simp [Value.oneCell']
theorem stored_cells (w : World) (Z : Array Value) (C : List Value) (hz : Z.size = C.length) (t : TypeId) :
    (w.alloc (.cells Z t)).there w.heap.size 0 C.length ∧ Stored w ((w.alloc (.cells Z t)).setCells w.heap.size 0 C) C := by
  have hth : (w.alloc (.cells Z t)).there w.heap.size 0 C.length := fun j hj => by
    rw [Nat.zero_add, World.cell?_alloc_at _ _ _ _ rfl]
    refine ⟨by show (Z[j]?).isSome = true; rw [Array.getElem?_eq_getElem (by omega)]; rfl, ?_⟩
    have : (w.alloc (.cells Z t)).heap[w.heap.size]? = some (.cells Z t (0, 0)) := heap_alloc_new w _
    unfold World.frozen?
    simp only
    rw [this]
    simp
  refine ⟨hth, World.rangeAt_setCells_same _ _ _ _ hth, ?_, ?_⟩
  · have : ∀ (cs : List Value) (o : Nat) (U : World), Below w.heap.size w U → Below w.heap.size w (U.setCells w.heap.size o cs) := by
      intro cs
      induction cs with
      | nil => intro o U h; exact h
      | cons c cs ih => intro o U h; exact ih (o + 1) _ (h.setCell (Nat.le_refl _) _)
    exact this C 0 _ ((Below.refl _ _).alloc (Nat.le_refl _) _)
  · have : ∀ (cs : List Value) (o : Nat) (U : World), (U.setCells w.heap.size o cs).heap.size = U.heap.size := by
      intro cs
      induction cs with
      | nil => intro o U; rfl
      | cons c cs ih => intro o U; show ((U.setCell _ _).setCells _ _ _).heap.size = _; rw [ih]; simp
    rw [this]; simp

theorem ruleL_byte (r : RuleD) : AllB (ruleL r) := by
  unfold ruleL
  refine .app (patL_byte _) (.app ?_ (.cons (by decide) (.cons (by decide) .nil)))
  split
  · exact .nil
  · exact .app (.cons (by decide) (.cons (by decide) (.cons (by decide) (.cons (by decide) .nil)))) (bodyL_byte _)
theorem tailL_len : ∀ (ls : List LitD), (∀ l ∈ ls, litB l = true) → (tailL ls).length ≤ 75502 * ls.length
  | [], _ => by simp [tailL]
  | l :: ls, h => by
    have h1 := litL_len (h l (by simp))
    have h2 := tailL_len ls (fun x hx => h x (by simp [hx]))
    rw [tailL]
    simp only [List.length_cons, List.length_append]
    omega
theorem bodyL_len (ls : List LitD) (h : ∀ l ∈ ls, litB l = true) : (bodyL ls).length ≤ 75502 * ls.length := by
  cases ls with
  | nil => simp [bodyL]
  | cons l ls =>
    have h1 := litL_len (h l (by simp))
    have h2 := tailL_len ls (fun x hx => h x (by simp [hx]))
    rw [bodyL]
    simp only [List.length_cons, List.length_append]
    omega
theorem rule_parts {p : PatD} {ls : List LitD} (h : ruleB (p, ls) = true) : ls.length ≤ 64 ∧ (∀ l ∈ ls, litB l = true) ∧ patB p = true := by
  unfold ruleB at h
  simp only [Bool.and_eq_true, decide_eq_true_eq] at h
  exact ⟨h.1, fun l hl => (List.all_eq_true.1 h.2.1) l hl, h.2.2⟩
theorem ruleL_len {p : PatD} {ls : List LitD} (h : ruleB (p, ls) = true) : (ruleL (p, ls)).length ≤ 5000000 := by
  obtain ⟨h1, h2, h3⟩ := rule_parts h
  have hp := patL_len h3
  have hb := bodyL_len ls h2
  unfold ruleL
  simp only [List.length_append, List.length_cons, List.length_nil]
  split
  · simp; omega
  · simp; omega

set_option maxRecDepth 100000 in
set_option maxHeartbeats 4000000 in
theorem ruRule_any (p : PatD) (v : Value) (ls : List LitD) (hok : ruleB (p, ls) = true) (m : Int) (w : World) (hm : HasMax w m) (hv : BodyS w v ls) :
    Calls Tryz.prog 50 #[.agg (ruleC p v)] w fun e w' => e = .returned (.string (strOfNums (ruleL (p, ls)))) ∧ Below w.heap.size w w' := by
  obtain ⟨h64, hls, hp⟩ := rule_parts hok
  obtain ⟨⟨a0, a1, a2, a3⟩, ⟨b0, b1, b2, b3⟩, ⟨c0, c1, c2, c3⟩⟩ := p
  have hp' := hp
  unfold patB at hp
  simp only [Bool.and_eq_true] at hp
  have HB := Lib.hid (below_new w (.cells (ruleC ((a0, a1, a2, a3), (b0, b1, b2, b3), (c0, c1, c2, c3)) v) 50))
  have Hm := Lib.hid (cell_below HB.out hm)
  have HP := Lib.hid (fun W (h : HasMax W m) => ruPatText_any a0 a1 a2 a3 b0 b1 b2 b3 c0 c1 c2 c3 hp.1.1 hp.1.2 hp.2 m W h)
  have hpz := patT_len (a0 := a0) (a1 := a1) (a2 := a2) (a3 := a3) (b0 := b0) (b1 := b1) (b2 := b2) (b3 := b3) (c0 := c0) (c1 := c1) (c2 := c2) (c3 := c3) hp.1.1 hp.1.2 hp.2
  have hpt : bs (patT a0 a1 a2 a3 b0 b1 b2 b3 c0 c1 c2 c3) = patL ((a0, a1, a2, a3), (b0, b1, b2, b3), (c0, c1, c2, c3)) := bs_strOfNums (patL_byte _)
  cases ls with
  | nil =>
    obtain ⟨ptr, cap, rfl, hcap, _⟩ := hv.form
    have HR : Hid (strOfNums (ruleL (((a0, a1, a2, a3), (b0, b1, b2, b3), (c0, c1, c2, c3)), [])) = patT a0 a1 a2 a3 b0 b1 b2 b3 c0 c1 c2 c3 ++ ⟨#[32]⟩ ++ ⟨#[46]⟩) := Lib.hid (by
      refine (strOf_eq ?_).symm
      rw [bs_app, bs_app, hpt]
      show patL _ ++ [32] ++ [46] = patL _ ++ ([] ++ [32, 46])
      simp)
    generalize patT a0 a1 a2 a3 b0 b1 b2 b3 c0 c1 c2 c3 = PT at *
    generalize strOfNums (ruleL _) = R at *
    have f0 : ¬ 9223372036854775807 < PT.size + 1 := by omega
    have f1 : ¬ 9223372036854775807 < PT.size + 1 + 1 := by omega
    clear hm hp hp' hv hok hls hpt hpz
    go_enter Tryz.func50, Tryz.ntmps50
    go_wp2_with (go_at_call 82; refine (HP.out _ Hm.out).mono ?_; rintro e w1 ⟨rfl, hB1⟩; obtain ⟨hc1, hf1⟩ := bcellR hB1)
    go_ret
    exact ⟨ret_str HR.out.symm, below_step HB.out hB1⟩
  | cons l0 ls =>
    rcases hv with ⟨_, h⟩ | ⟨g, o, cap, rfl, hcap, hcm, hrow⟩
    · cases h
    have HR : Hid (strOfNums (ruleL (((a0, a1, a2, a3), (b0, b1, b2, b3), (c0, c1, c2, c3)), l0 :: ls)) = patT a0 a1 a2 a3 b0 b1 b2 b3 c0 c1 c2 c3 ++ (⟨#[32, 58, 45, 32]⟩ ++ strOfNums (bodyL (l0 :: ls))) ++ ⟨#[32]⟩ ++ ⟨#[46]⟩) := Lib.hid (by
      refine (strOf_eq ?_).symm
      rw [bs_app, bs_app, bs_app, bs_app, hpt, bs_strOfNums (bodyL_byte _)]
      show patL _ ++ ([32, 58, 45, 32] ++ bodyL (l0 :: ls)) ++ [32] ++ [46] = patL _ ++ ((if l0 :: ls = [] then [] else [32, 58, 45, 32] ++ bodyL (l0 :: ls)) ++ [32, 46])
      rw [if_neg (by simp)]
      simp)
    have HBd := Lib.hid (fun W (k : Below w.heap.size w W) (h : HasMax W m) => ruBody_any g o cap l0 ls h64 hcap hls m W h (hrow.below k))
    have hbz : (strOfNums (bodyL (l0 :: ls))).size ≤ 75502 * 64 := by rw [strOfNums_size]; have := bodyL_len (l0 :: ls) hls; have : (l0 :: ls).length ≤ 64 := h64; omega
    generalize patT a0 a1 a2 a3 b0 b1 b2 b3 c0 c1 c2 c3 = PT at *
    generalize strOfNums (ruleL _) = R at *
    generalize strOfNums (bodyL (l0 :: ls)) = BT at *
    have f0 : ¬ 9223372036854775807 < 4 + BT.size := by omega
    have f1 : ¬ 9223372036854775807 < PT.size + (4 + BT.size) := by omega
    have f2 : ¬ 9223372036854775807 < PT.size + (4 + BT.size) + 1 := by omega
    have f3 : ¬ 9223372036854775807 < PT.size + (4 + BT.size) + 1 + 1 := by omega
    have hgt : decide ((0 : Int) < (ls.length : Int) + 1) = true := by simp <;> omega
    clear hm hp hp' hrow hok hls hpt hpz hbz h64 hcap
    go_enter Tryz.func50, Tryz.ntmps50
    go_wp2_with (go_at_call 82; refine (HP.out _ Hm.out).mono ?_; rintro e w1 ⟨rfl, hB1⟩; obtain ⟨hc1, hf1⟩ := bcellR hB1; have Hm1 := Lib.hid (cell_below hB1 Hm.out); have HB1 := Lib.hid (below_step HB.out hB1))
    go_wp2_with (go_at_call 32; refine (HBd.out _ HB1.out Hm1.out).mono ?_; rintro e w2 ⟨rfl, hB2⟩)
    go_ret
    exact ⟨ret_str HR.out.symm, below_step HB1.out hB2⟩

/-- A rule's text; none, if it may not be. -/
def writtenT (r : RuleD) : ByteArray := if ruleB r = true then strOfNums (ruleL r) else ⟨#[]⟩
set_option maxRecDepth 100000 in
set_option maxHeartbeats 4000000 in
theorem ruWritten_any (p : PatD) (v : Value) (ls : List LitD) (hp : VastP p) (hl : ∀ l ∈ ls, VastL l) (m : Int) (w : World) (hm : HasMax w m) (hv : BodyS w v ls) :
    Calls Tryz.prog 30 #[.agg (ruleC p v)] w fun e w' => e = .returned (.string (writtenT (p, ls))) ∧ Below w.heap.size w w' := by
  have HB := Lib.hid (below_new w (.cells (ruleC p v) 50))
  have Hm := Lib.hid (cell_below HB.out hm)
  have HM := Lib.hid (ruMay_any p v ls hp hl m _ Hm.out (hv.below HB.out))
  obtain ⟨R, hR⟩ : ∃ R, R = writtenT (p, ls) := ⟨_, rfl⟩
  rw [← hR]
  have HR := Lib.hid hR
  cases hok : ruleB (p, ls) with
  | false =>
    rw [hok] at HM
    have HX : Hid (R = ⟨#[]⟩) := Lib.hid (by rw [HR.out]; unfold writtenT; rw [if_neg (by rw [hok]; decide)])
    clear hR hok hm hv hp hl
    go_enter Tryz.func30, Tryz.ntmps30
    go_wp2_with (go_at_call 48; refine (HM.out).mono ?_; rintro e w1 ⟨rfl, hB1⟩)
    go_ret
    exact ⟨ret_str HX.out.symm, below_step HB.out hB1⟩
  | true =>
    rw [hok] at HM
    have HX : Hid (R = strOfNums (ruleL (p, ls))) := Lib.hid (by rw [HR.out]; unfold writtenT; rw [if_pos hok])
    have HT := Lib.hid (fun W (k : Below w.heap.size w W) (h : HasMax W m) => ruRule_any p v ls hok m W h (hv.below k))
    clear hR hok hm hv hp hl
    go_enter Tryz.func30, Tryz.ntmps30
    go_wp2_with (go_at_call 48; refine (HM.out).mono ?_; rintro e w1 ⟨rfl, hB1⟩; obtain ⟨hc1, hf1⟩ := bcellR hB1; have Hm1 := Lib.hid (cell_below hB1 Hm.out); have HB1 := Lib.hid (below_step HB.out hB1))
    go_wp2_with (go_at_call 50; refine (HT.out _ HB1.out Hm1.out).mono ?_; rintro e w2 ⟨rfl, hB2⟩)
    go_ret
    exact ⟨ret_str HX.out.symm, below_step HB1.out hB2⟩

/-- A text, and an error. -/
def rtextR (r : RuleD) : ByteArray × Nat := if ruleB r = true then (if (ruleL r).length ≤ 1048576 then (strOfNums (ruleL r), 0) else (⟨#[]⟩, 3)) else (⟨#[]⟩, 2)
theorem ruleL_pos (r : RuleD) : 0 < (ruleL r).length := by unfold ruleL patL; simp
set_option maxRecDepth 100000 in
set_option maxHeartbeats 4000000 in
theorem ruText_any (p : PatD) (v : Value) (ls : List LitD) (hp : VastP p) (hl : ∀ l ∈ ls, VastL l) (m : Int) (w : World) (hm : HasMax w m) (hv : BodyS w v ls) :
    Calls Tryz.prog 11 #[.agg (ruleC p v)] w fun e w' => e = .returned (.tuple #[.string (rtextR (p, ls)).1, .int .i64 (rtextR (p, ls)).2]) ∧ Below w.heap.size w w' := by
  have HB := Lib.hid (below_new w (.cells (ruleC p v) 50))
  have HW := Lib.hid (ruWritten_any p v ls hp hl m _ (cell_below HB.out hm) (hv.below HB.out))
  have hz := strOfNums_size (ruleL (p, ls))
  have hpos := ruleL_pos (p, ls)
  obtain ⟨R, hR⟩ : ∃ R, R = rtextR (p, ls) := ⟨_, rfl⟩
  rw [← hR]
  have HR := Lib.hid hR
  cases hok : ruleB (p, ls) with
  | false =>
    have hw : writtenT (p, ls) = ⟨#[]⟩ := by unfold writtenT; rw [if_neg (by rw [hok]; decide)]
    rw [hw] at HW
    have HX : Hid (R = (⟨#[]⟩, 2)) := Lib.hid (by rw [HR.out]; unfold rtextR; rw [if_neg (by rw [hok]; decide)])
    clear hR hok hm hv hp hl hw hz hpos
    go_enter Tryz.func11, Tryz.ntmps11
    go_wp2_with (go_at_call 30; refine (HW.out).mono ?_; rintro e w1 ⟨rfl, hB1⟩)
    go_ret2
    rw [HX.out]
    exact ⟨rfl, below_step HB.out hB1⟩
  | true =>
    have hw : writtenT (p, ls) = strOfNums (ruleL (p, ls)) := by unfold writtenT; rw [if_pos hok]
    rw [hw] at HW
    have hne := string_neq_empty (v := strOfNums (ruleL (p, ls))) (by omega)
    by_cases hlen : (ruleL (p, ls)).length ≤ 1048576
    · have HX : Hid (R = (strOfNums (ruleL (p, ls)), 0)) := Lib.hid (by rw [HR.out]; unfold rtextR; rw [if_pos hok, if_pos hlen])
      have d1 : decide ((1048576 : Int) < ((strOfNums (ruleL (p, ls))).size : Int)) = false := by simp; omega
      generalize strOfNums (ruleL (p, ls)) = Q at *
      clear hR hok hm hv hp hl hw hz hpos hlen
      go_enter Tryz.func11, Tryz.ntmps11
      go_wp2_with (go_at_call 30; refine (HW.out).mono ?_; rintro e w1 ⟨rfl, hB1⟩)
      go_ret2
      rw [HX.out]
      exact ⟨rfl, below_step HB.out hB1⟩
    · have HX : Hid (R = (⟨#[]⟩, 3)) := Lib.hid (by rw [HR.out]; unfold rtextR; rw [if_pos hok, if_neg hlen])
      have d1 : decide ((1048576 : Int) < ((strOfNums (ruleL (p, ls))).size : Int)) = true := by simp; omega
      generalize strOfNums (ruleL (p, ls)) = Q at *
      clear hR hok hm hv hp hl hw hz hpos hlen
      go_enter Tryz.func11, Tryz.ntmps11
      go_wp2_with (go_at_call 30; refine (HW.out).mono ?_; rintro e w1 ⟨rfl, hB1⟩)
      go_ret2
      rw [HX.out]
      exact ⟨rfl, below_step HB.out hB1⟩

/-- A part's text, and an error. -/
def partR (l : LitD) : ByteArray × Nat := if litB l = true then (litT l, 0) else (⟨#[]⟩, 2)
theorem rowL_one (w : World) (l : LitD) (t : TypeId) : RowL (w.alloc (.cells (litC l) t)) w.heap.size 0 [l] := fun j u hu => by
  rw [Nat.zero_add, World.cell?_alloc_at _ _ _ _ rfl]
  have e : flatL [l] = (litC l).toList := by simp [flatL]
  rw [e] at hu
  simpa using hu

theorem fold_set : ∀ (L : List Value) (k : Nat) (Z : Array Value) (i : Nat), k + L.length ≤ Z.size →
    ((L.zipIdx k).foldl (fun cs x => cs.setIfInBounds x.2 x.1) Z)[i]? = if k ≤ i ∧ i < k + L.length then L[i - k]? else Z[i]?
  | [], k, Z, i, _ => by simp; intro h1 h2; omega
  | c :: L, k, Z, i, h => by
    rw [List.zipIdx_cons, List.foldl_cons]
    simp only [List.length_cons] at h
    rw [fold_set L (k + 1) _ i (by simp; omega)]
    by_cases h1 : i = k
    · subst h1
      rw [if_neg (by omega), if_pos (by simp), Array.getElem?_setIfInBounds_self_of_lt (by omega), Nat.sub_self]
      rfl
    · rw [Array.getElem?_setIfInBounds_ne (fun e => h1 e.symm)]
      by_cases h2 : k + 1 ≤ i ∧ i < k + 1 + L.length
      · rw [if_pos h2, if_pos (by simp; omega), show i - k = (i - (k + 1)) + 1 by omega, List.getElem?_cons_succ]
      · rw [if_neg h2, if_neg (by simp; omega)]
theorem fill_one (C : List Value) (Z : Array Value) (hz : Z.size = C.length) : Instr.fill (fun i => some (i * C.length, C.length)) Z [(0, .agg C.toArray)] = some C.toArray := by
  have hc : (Value.agg C.toArray).cells = C.toArray := rfl
  rw [Instr.fill]
  simp only [hc, Nat.zero_mul, Nat.zero_add]
  rw [if_neg (by simp; omega), Instr.fill]
  congr 1
  rw [← Array.foldl_toList, Array.toList_zipIdx]
  apply Array.ext_getElem?
  intro i
  rw [fold_set _ 0 Z i (by simp; omega)]
  simp only [Nat.zero_le, true_and, Nat.zero_add, Nat.sub_zero, List.getElem?_toArray]
  split
  · rfl
  · rename_i h
    rw [Array.getElem?_eq_none (by omega), List.getElem?_eq_none (by omega)]
/-- A slice literal of one element of whatever cells. -/
theorem wpList_buildOne {P : Program} {ops : Array Oper} {rest : List Oper} {o : Oper} {a : Act} {w : World} {Q : Exit → Act → World → Prop} (hg : o.guard = none) (t e : TypeId) (x : Operand) (ho : o.op = .buildSlice t 1 #[(0, x)])
    (C : List Value) (hx : a.eval x = .agg C.toArray) (hu : P.underlying t = some (.slice e)) (hi : (P.info? e).map (·.size) = some C.length) (hz : ((P.info? e).bind (·.zero)).isSome = true) (hp : 0 < C.length) (hs : C.length ≤ 1000)
    (h : wpList P ops Q rest (a.put o.dst (.slice (some ⟨w.heap.size, 0, none⟩) 1 1)) (w.alloc (.cells C.toArray e))) : wpList P ops Q (o :: rest) a w := by
  cases hie : P.info? e with
  | none => simp [hie] at hi
  | some ie =>
    simp only [hie, Option.map_some, Option.some.injEq, Option.bind_some] at hi hz
    obtain ⟨z, hzz⟩ := Option.isSome_iff_exists.1 hz
    refine wpList_buildSlice hg t e 1 _ ho C.toArray ie z hu hie hzz (by rw [hi]; omega) (by rw [hi]; omega) ?_ h
    rw [hi]
    have : (#[(0, x)].map fun (i, x) => (i, a.eval x)).toList = [(0, .agg C.toArray)] := by simp [hx]
    rw [this]
    exact fill_one C _ (by simp)

theorem range_new (w : World) (C : List Value) (t : TypeId) : (w.alloc (.cells C.toArray t)).rangeAt w.heap.size 0 C := fun j v h => by
  rw [Nat.zero_add, World.cell?_alloc_at _ _ _ _ rfl]
  show C.toArray[j]? = some v
  rw [List.getElem?_toArray]
  exact h
theorem range_below {w u : World} {b o : Nat} {C : List Value} (h : w.rangeAt b o C) (k : Below w.heap.size w u) : u.rangeAt b o C := fun j v e => (k.cell (World.block_lt_of_cell? _ _ (h j v e))).trans (h j v e)

set_option maxRecDepth 100000 in
set_option maxHeartbeats 8000000 in
theorem ruPartText_any (l : LitD) (hl : VastL l) (m : Int) (w : World) (hm : HasMax w m) :
    Calls Tryz.prog 13 #[.agg (litC l)] w fun e w' => e = .returned (.tuple #[.string (partR l).1, .int .i64 (partR l).2]) ∧ Below w.heap.size w w' := by
  have hMp := fun W (h : HasMax W m) => ruPart_any l hl m W h
  have hone := litC_one l
  have hlen : (litC l).toList.length = 21 := rfl
  have HTx : Hid (litB l = true → ∀ W, HasMax W m → Calls Tryz.prog 32 #[.slice (some ⟨W.heap.size, 0, none⟩) 1 1] (W.alloc (.cells (litC l) 37)) fun e w' => e = .returned (.string (litT l)) ∧ Below (W.alloc (.cells (litC l) 37)).heap.size (W.alloc (.cells (litC l) 37)) w') := Lib.hid (fun hok W hW => by
    have := ruBody_any W.heap.size 0 1 l [] (by decide) (by decide) (fun x hx => by rw [List.mem_singleton.1 hx]; exact hok) m _ (cell_below (below_new W (.cells (litC l) 37)) hW) (rowL_one W l 37)
    have e : strOfNums (bodyL [l]) = litT l := by
      show strOfNums (litL l ++ []) = _
      rw [List.append_nil]; rfl
    rwa [e] at this)
  have harr : litC l = (litC l).toList.toArray := rfl
  obtain ⟨R, hR⟩ : ∃ R, R = partR l := ⟨_, rfl⟩
  rw [← hR]
  have HR := Lib.hid hR
  have HQ : Hid (partR l = if litB l = true then (litT l, 0) else (⟨#[]⟩, 2)) := Lib.hid rfl
  rw [harr] at hMp HTx ⊢
  clear harr hR
  generalize (litC l).toList = C at *
  have HB := Lib.hid (below_new w (.cells C.toArray 37))
  have Hm := Lib.hid (cell_below HB.out hm)
  have HM := Lib.hid (hMp _ Hm.out)
  have hsz21 : (Tryz.prog.info? 37).map (·.size) = some C.length := by rw [hlen]; kernel_rfl
  have HS := Lib.hid hsz21
  have hlp : 0 < C.length := by omega
  have hl1 : C.length ≤ 1000 := by omega
  have HRg := Lib.hid (range_new w C 37)
  have HOn := Lib.hid hone
  clear hsz21 hMp hone hlen hm hl
  cases hok : litB l with
  | false =>
    rw [hok] at HM
    have HX : Hid (R = (⟨#[]⟩, 2)) := Lib.hid (by rw [HR.out, HQ.out]; rw [if_neg (by rw [hok]; decide)])
    clear hok HTx
    go_enter Tryz.func13, Tryz.ntmps13
    go_wp2_with (first
      | (refine wpList_load_mid rfl 37 (.tmp 1) rfl w.heap.size 0 rfl C _ HRg.out Tryz.underlying37 rfl HS.out ?_)
      | (go_at_call 31; refine (HM.out).mono ?_; rintro e w1 ⟨rfl, hB1⟩))
    go_ret2
    rw [HX.out]
    exact ⟨rfl, below_step HB.out hB1⟩
  | true =>
    rw [hok] at HM
    have HX : Hid (R = (litT l, 0)) := Lib.hid (by rw [HR.out, HQ.out]; rw [if_pos hok])
    have HT := Lib.hid (HTx.out hok)
    clear hok HTx
    go_enter Tryz.func13, Tryz.ntmps13
    go_wp2_with (first
      | (refine wpList_load_mid rfl 37 (.tmp 1) rfl w.heap.size 0 rfl C _ HRg.out Tryz.underlying37 rfl HS.out ?_)
      | (go_at_call 31; refine (HM.out).mono ?_; rintro e w1 ⟨rfl, hB1⟩; have HRg1 := Lib.hid (range_below HRg.out hB1); have Hm1 := Lib.hid (cell_below hB1 Hm.out); have HB1 := Lib.hid (below_step HB.out hB1))
      | (refine wpList_load_mid rfl 37 (.tmp 1) rfl w.heap.size 0 rfl C _ HRg1.out Tryz.underlying37 rfl HS.out ?_)
      | (refine wpList_buildOne rfl 48 37 (.tmp 7) rfl C rfl Tryz.underlying48 HS.out (by kernel_rfl) hlp hl1 ?_)
      | (go_at_call 32; refine (HT.out _ Hm1.out).mono ?_; rintro e w2 ⟨rfl, hB2⟩))
    go_ret2
    rw [HX.out]
    exact ⟨rfl, below_step (below_step HB1.out (below_new _ _)) hB2⟩
end Go.Proofs.YtbcoklbfebmpoaaGreatDoor

/-
  THE CONTRACTS OF rules.Texts, Compare.
-/

namespace Go.Proofs.YtbcoklbfebmpoaaGreatDoor
open Go.RowKit
open Utf Term
set_option linter.unusedVariables false
set_option linter.unusedSimpArgs false

def VastR (r : RuleD) : Prop := VastP r.1 ∧ ∀ l ∈ r.2, VastL l
/-- The text of rules, and an error. -/
def rtextsR (rs : List RuleD) : ByteArray × Nat := if rs.all ruleB = true then (if 1048576 < (rulesL rs).length then (⟨#[]⟩, 3) else (strOfNums (rulesL rs), 0)) else (⟨#[]⟩, 2)
theorem SliceRu.form {W : World} {v : Value} {rs : List RuleD} (h : SliceRu W v rs) : ∃ p cap, v = .slice p rs.length cap ∧ rs.length ≤ cap ∧ (0 < rs.length → ∃ g o, p = some ⟨g, o, none⟩ ∧ RowRu W g o rs) := by
  rcases h with ⟨rfl, rfl⟩ | ⟨g, o, cap, rfl, h2, h3, h4⟩
  · exact ⟨none, 0, rfl, Nat.le_refl _, fun h => absurd h (by simp)⟩
  · exact ⟨_, cap, rfl, h2, fun _ => ⟨g, o, rfl, h4⟩⟩
theorem take_snocR {α : Type} {l : List α} {k : Nat} {x : α} (h : l[k]? = some x) : l.take (k + 1) = l.take k ++ [x] := by
  rw [List.take_add_one, h]; rfl
theorem rulesL_snoc (rs : List RuleD) (r : RuleD) : rulesL (rs ++ [r]) = rulesL rs ++ (ruleL r ++ [10]) := by simp [rulesL]

/-- What a round does with the rule's own cells: read, stored anew. -/
structure RuleCells (C : List Value) : Prop where
  len : C.length = 13
  one : C.toArray.all (·.oneCell') = true
  info : (Tryz.prog.info? 50).map (·.size) = some C.length
  info' : (Tryz.prog.info? 50).map (·.size) = some C.toArray.size
theorem ruleCells (p : PatD) (q : Option Addr) (n c : Nat) : RuleCells (ruleC p (.slice q n c)).toList :=
  ⟨rfl, ruleC_one p q n c, by kernel_rfl, by kernel_rfl⟩

set_option maxRecDepth 100000 in
set_option maxHeartbeats 8000000 in
theorem ruTexts_any (v : Value) (rs : List RuleD) (hn : rs.length ≤ 1000000) (hf : ∀ r ∈ rs, VastR r) (m : Int) (w : World) (hm : HasMax w m) (hv : SliceRu w v rs) :
    Calls Tryz.prog 20 #[v] w fun e w' => e = .returned (.tuple #[.string (rtextsR rs).1, .int .i64 (rtextsR rs).2]) ∧ Below w.heap.size w w' := by
  obtain ⟨ptr, cap, rfl, hcap, hp⟩ := hv.form
  have HP : Hid (∀ W, Below w.heap.size w W → 0 < rs.length → ∃ g o, ptr = some ⟨g, o, none⟩ ∧ RowRu W g o rs) := Lib.hid (fun W k h => by
    obtain ⟨g, o, e, r⟩ := hp h
    exact ⟨g, o, e, r.below k⟩)
  have Hm := Lib.hid hm
  have HFt := Lib.hid hf
  obtain ⟨n, hnn⟩ : ∃ n, n = rs.length := ⟨_, rfl⟩
  have HN := Lib.hid hnn
  rw [← hnn] at HP hn hcap ⊢
  obtain ⟨R, hR⟩ : ∃ R, R = rtextsR rs := ⟨_, rfl⟩
  rw [← hR]
  have HR := Lib.hid hR
  clear hp hm hf hnn hv hR
  go_enter Tryz.func20, Tryz.ntmps20
  go_wp2_with fail
  go_loopg [11] n (fun gg i wr => ∃ k : Nat, k ≤ n ∧ n - k ≤ gg ∧ i = .int .i64 k ∧ (rs.take k).all ruleB = true ∧ Below w.heap.size w wr)
  case atStart => exact ⟨0, Nat.zero_le _, by omega, rfl, by simp, Below.refl _ _⟩
  case round =>
    obtain ⟨k, hk, hgg, rfl, hall, hB⟩ := hrel
    have HAl := Lib.hid hall
    have HB := Lib.hid hB
    clear hall hB
    by_cases hlt : k < n
    · obtain ⟨x, hx⟩ : ∃ x, rs[k]? = some x := ⟨_, List.getElem?_eq_getElem (by have := HN.out; omega)⟩
      obtain ⟨g, o, rfl, hrow⟩ := HP.out wr HB.out (by omega)
      obtain ⟨vb, hra, hbd⟩ := hrow k x hx
      have hC := hra.range
      have hfx := HFt.out x (List.mem_of_getElem? hx)
      have hMp := fun W (hW : HasMax W m) (k : Below wr.heap.size wr W) => ruMay_any x.1 vb x.2 hfx.1 hfx.2 m W hW (hbd.below k)
      obtain ⟨bp, bc, rfl, _, _⟩ := hbd.form
      have hrc := ruleCells x.1 bp x.2.length bc
      have harr : ruleC x.1 (.slice bp x.2.length bc) = (ruleC x.1 (.slice bp x.2.length bc)).toList.toArray := rfl
      rw [harr] at hMp
      clear harr
      generalize (ruleC x.1 (.slice bp x.2.length bc)).toList = C at *
      have hst := stored_cells wr (ruleC zPa (.slice none 0 0)) C (by rw [hrc.len]; rfl) 50
      have hth : (wr.alloc (.cells (ruleC zPa (.slice none 0 0)) 50)).there wr.heap.size 0 C.toArray.size := by rw [List.size_toArray]; exact hst.1
      have HC := Lib.hid hC
      have HRc := Lib.hid hrc
      have HTh := Lib.hid hth
      have HSt := Lib.hid hst.2
      have HX := Lib.hid hx
      have HMp := Lib.hid hMp
      clear hrow hfx hMp hrc hst hth hC hx hra hbd
      go_upto_region 4 with (first
        | (refine wpList_load_mid rfl 50 (.tmp 13) rfl g (o + k * 13) rfl C _ HC.out Tryz.underlying50 rfl HRc.out.info ?_)
        | (refine wpList_store_mid rfl 50 (.tmp 5) (.tmp 14) rfl wr.heap.size 0 C.toArray rfl rfl HTh.out HRc.out.info' HRc.out.one ?_))
      generalize hW : World.setCells (World.alloc wr (Obj.cells _ _)) _ _ _ = W2
      have hf2 : Stored wr W2 C := by rw [← hW]; exact HSt.out
      obtain ⟨hr2, hB2, _⟩ := hf2
      have HR2 := Lib.hid hr2
      have HB2 := Lib.hid hB2
      have HM := Lib.hid (HMp.out W2 (cell_below (HB.out.trans (hB2.mono HB.out.size)) Hm.out) hB2)
      have HB3 := Lib.hid (HB.out.trans (hB2.mono HB.out.size))
      clear hW hr2 hB2 HTh HSt HMp HC
      cases hadd : ruleB (x.1, x.2) with
      | false =>
        have HRx : Hid (R = (⟨#[]⟩, 2)) := Lib.hid (by
          rw [HR.out]
          unfold rtextsR
          rw [if_neg]
          intro h
          rw [List.all_eq_true] at h
          have := h x (List.mem_of_getElem? HX.out)
          rw [show x = (x.1, x.2) from rfl, hadd] at this
          cases this)
        rw [hadd] at HM
        clear hadd
        go_wp2_with (first
          | (refine wpList_load_mid rfl 50 (.tmp 5) rfl wr.heap.size 0 rfl C _ HR2.out Tryz.underlying50 rfl HRc.out.info ?_)
          | (go_at_call 48; refine HM.out.mono ?_; rintro e y ⟨rfl, hY⟩))
        go_ret2
        rw [HRx.out]
        exact ⟨rfl, HB3.out.trans (hY.mono HB3.out.size)⟩
      | true =>
        rw [hadd] at HM
        have HAl2 : Hid ((rs.take (k + 1)).all ruleB = true) := Lib.hid (by rw [take_snocR HX.out, List.all_append, HAl.out]; simp; exact hadd)
        clear hadd
        go_wp2_with (first
          | (refine wpList_load_mid rfl 50 (.tmp 5) rfl wr.heap.size 0 rfl C _ HR2.out Tryz.underlying50 rfl HRc.out.info ?_)
          | (go_at_call 48; refine HM.out.mono ?_; rintro e y ⟨rfl, hY⟩))
        go_roundg (n - (k + 1))
        case measure => omega
        case rel => exact ⟨k + 1, by omega, Nat.le_refl _, by go_num, HAl2.out, HB3.out.trans (hY.mono HB3.out.size)⟩
    · obtain rfl : k = n := by omega
      have HAll : Hid (rs.all ruleB = true) := Lib.hid (by have := HAl.out; rwa [HN.out, List.take_length] at this)
      clear HAl
      have hB0 := below_new wr (.cells #[.pointer none, .slice none 0 0] 107)
      have hb0 : Bld wr.heap.size wr.heap.size [] (wr.alloc (.cells #[.pointer none, .slice none 0 0] 107)) :=
        .inl ⟨Nat.le_refl _, .slice none 0 0, World.alloc_heap_new wr (.cells #[.pointer none, .slice none 0 0] 107), World.ownsRowF_nil _ _ _ _, by simp [Value.ownBlock]⟩
      have hs0 : wr.heap.size < (wr.alloc (.cells #[.pointer none, .slice none 0 0] 107)).heap.size := by simp
      have hwb : w.heap.size ≤ wr.heap.size := HB.out.size
      obtain ⟨W0, hW0⟩ : ∃ W0, W0 = wr.alloc (.cells #[.pointer none, .slice none 0 0] 107) := ⟨_, rfl⟩
      rw [← hW0] at hB0 hb0 hs0
      have HW0 := Lib.hid hW0
      have HB0 := Lib.hid (HB.out.trans (hB0.mono hwb))
      have Hb0 := Lib.hid hb0
      clear hW0 hB0 hb0 HB
      go_upto_region 8 with fail
      rw [← HW0.out]
      generalize wr.heap.size = bp at *
      clear HW0
      go_wp2_with fail
      go_loopg [21] k (fun gg i wq => ∃ j : Nat, j ≤ k ∧ k - j ≤ gg ∧ i = .int .i64 j ∧ Below w.heap.size w wq ∧ bp < wq.heap.size ∧ Bld bp bp (Lib.byteCells (u8s (rulesL (rs.take j)))) wq ∧ (rulesL (rs.take j)).length ≤ 1048576)
      case atStart => exact ⟨0, Nat.zero_le _, by omega, rfl, HB0.out, hs0, Hb0.out, by simp [rulesL]⟩
      case round =>
        obtain ⟨j, hj, hgg2, rfl, hBq, hsq, hbq, hlq⟩ := hrel
        have HBq := Lib.hid hBq
        have Hbq := Lib.hid hbq
        clear hBq hbq HB0 Hb0 hs0
        by_cases hlt : j < k
        · obtain ⟨x, hx⟩ : ∃ x, rs[j]? = some x := ⟨_, List.getElem?_eq_getElem (by have := HN.out; omega)⟩
          obtain ⟨g, o, rfl, hrow⟩ := HP.out wr HBq.out (by omega)
          obtain ⟨vb, hra, hbd⟩ := hrow j x hx
          have hC := hra.range
          have hadd : ruleB (x.1, x.2) = true := List.all_eq_true.1 HAll.out x (List.mem_of_getElem? hx)
          have hln := ruleL_len hadd
          have hMp := fun W (hW : HasMax W m) (k : Below wr.heap.size wr W) => ruRule_any x.1 vb x.2 hadd m W hW (hbd.below k)
          obtain ⟨bq, bc, rfl, _, _⟩ := hbd.form
          have hrc := ruleCells x.1 bq x.2.length bc
          have harr : ruleC x.1 (.slice bq x.2.length bc) = (ruleC x.1 (.slice bq x.2.length bc)).toList.toArray := rfl
          rw [harr] at hMp
          clear harr
          generalize (ruleC x.1 (.slice bq x.2.length bc)).toList = C at *
          have hst := stored_cells wr (ruleC zPa (.slice none 0 0)) C (by rw [hrc.len]; rfl) 50
          have hth : (wr.alloc (.cells (ruleC zPa (.slice none 0 0)) 50)).there wr.heap.size 0 C.toArray.size := by rw [List.size_toArray]; exact hst.1
          have hnx : rulesL (rs.take (j + 1)) = rulesL (rs.take j) ++ (ruleL (x.1, x.2) ++ [10]) := by rw [take_snocR hx, rulesL_snoc]
          have HC := Lib.hid hC
          have HRc := Lib.hid hrc
          have HTh := Lib.hid hth
          have HSt := Lib.hid hst.2
          have HMp := Lib.hid hMp
          have HNx := Lib.hid hnx
          have HCu := Lib.hid (cells_u8s (ruleL (x.1, x.2)))
          have HSu := Lib.hid (strOfNums_size (ruleL (x.1, x.2)))
          clear hrow hMp hrc hst hth hC hx hra hbd hadd hnx
          generalize ruleL (x.1, x.2) = TL at *
          go_upto_region 11 with (first
            | (refine wpList_load_mid rfl 50 (.tmp 23) rfl g (o + j * 13) rfl C _ HC.out Tryz.underlying50 rfl HRc.out.info ?_)
            | (refine wpList_store_mid rfl 50 (.tmp 8) (.tmp 24) rfl wr.heap.size 0 C.toArray rfl rfl HTh.out HRc.out.info' HRc.out.one ?_))
          generalize hW : World.setCells (World.alloc wr (Obj.cells _ _)) _ _ _ = W2
          have hf2 : Stored wr W2 C := by rw [← hW]; exact HSt.out
          obtain ⟨hr2, hB2, _⟩ := hf2
          have HR2 := Lib.hid hr2
          have hB3 := HBq.out.trans (hB2.mono HBq.out.size)
          have HTT := Lib.hid (HMp.out W2 (cell_below hB3 Hm.out) hB2)
          have HB1 := Lib.hid hB3
          have Hb1 := Lib.hid (bld_below Hbq.out hB2)
          have hs1 : bp < W2.heap.size := by have := hB2.size; omega
          clear hW hr2 hB2 HTh HSt HMp HC hB3
          have hsz : (strOfNums TL).size ≤ 5000000 := by have := HSu.out; omega
          have hbl : (Lib.byteCells (u8s (rulesL (rs.take j)))).length ≤ 1048576 := by rw [Lib.byteCells_length]; unfold u8s; rw [List.length_map]; exact hlq
          have hbl1 : (Lib.byteCells (u8s (rulesL (rs.take j) ++ TL))).length ≤ 6200000 := by rw [Lib.byteCells_length]; unfold u8s; rw [List.length_map, List.length_append]; omega
          go_upto_region 12 with (first
            | (refine wpList_load_mid rfl 50 (.tmp 8) rfl wr.heap.size 0 rfl C _ HR2.out Tryz.underlying50 rfl HRc.out.info ?_)
            | (go_at_call 50; refine HTT.out.mono ?_; rintro e y ⟨rfl, hY⟩; have HBy := Lib.hid (HB1.out.trans (hY.mono HB1.out.size)); have Hby := Lib.hid (bld_below Hb1.out hY); have hsy := Lib.hid (show bp < y.heap.size by have := hY.size; omega))
            | (go_at_call 49; refine (writeString_any bp bp _ _ _ Hby.out (by omega) (Nat.le_of_lt hsy.out)).mono ?_; rintro e y1 ⟨rfl, hb2, hw2⟩))
          have Hb2 : Hid (Bld bp bp (Lib.byteCells (u8s (rulesL (rs.take j) ++ TL))) y1) := Lib.hid (.inr (by rw [HCu.out] at hb2; rw [u8s_append, Lib.byteCells_append]; exact hb2))
          have HB2 := Lib.hid (HBy.out.trans (hw2.1.mono hwb))
          have hs2 : bp < y1.heap.size := Nat.lt_of_lt_of_le hsy.out hw2.1.size
          clear hb2 hw2 Hby HBy hY HTT HB1 Hb1
          go_upto_region 13 with (go_at_call 51; refine (writeByte_any bp bp _ 10 _ Hb2.out (by omega) (Nat.le_of_lt hs2)).mono ?_; rintro e y2 ⟨rfl, hb3, hw3⟩)
          have Hb3 : Hid (Bld bp bp (Lib.byteCells (u8s (rulesL (rs.take (j + 1))))) y2) := Lib.hid (.inr (by rw [HNx.out, ← List.append_assoc, u8s_append, Lib.byteCells_append]; exact hb3))
          have HB3 := Lib.hid (HB2.out.trans (hw3.1.mono hwb))
          have hs3 : bp < y2.heap.size := Nat.lt_of_lt_of_le hs2 hw3.1.size
          have hlen3 : (Lib.byteCells (u8s (rulesL (rs.take (j + 1))))).length = (rulesL (rs.take (j + 1))).length := by rw [Lib.byteCells_length]; unfold u8s; rw [List.length_map]
          have HLn := Lib.hid (Tryz.Builder_Len_f bp bp _ y2 Hb3.out)
          rw [hlen3] at HLn
          clear hb3 hw3 Hb2 HB2 hlen3
          by_cases hlong : 1048576 < (rulesL (rs.take (j + 1))).length
          · have d3 : decide ((1048576 : Int) < ((rulesL (rs.take (j + 1))).length : Int)) = true := by simp; omega
            have HRx : Hid (R = (⟨#[]⟩, 3)) := Lib.hid (by
              rw [HR.out]
              unfold rtextsR
              rw [if_pos HAll.out, if_pos]
              have e : rulesL rs = rulesL (rs.take (j + 1)) ++ rulesL (rs.drop (j + 1)) := by
                unfold rulesL
                rw [← List.flatMap_append, List.take_append_drop]
              rw [e, List.length_append]
              omega)
            generalize (rulesL (rs.take (j + 1))).length = LN at *
            go_wp2_with (go_at_call 52; refine HLn.out.mono ?_; rintro e y3 ⟨rfl, rfl⟩)
            go_ret2
            rw [HRx.out]
            exact ⟨rfl, HB3.out⟩
          · have d3 : decide ((1048576 : Int) < ((rulesL (rs.take (j + 1))).length : Int)) = false := by simp; omega
            have hle : (rulesL (rs.take (j + 1))).length ≤ 1048576 := by omega
            have HLe := Lib.hid hle
            clear hle hlong
            obtain ⟨LN, hLN⟩ : ∃ LN, LN = (rulesL (rs.take (j + 1))).length := ⟨_, rfl⟩
            rw [← hLN] at HLn d3
            clear hLN
            go_wp2_with (go_at_call 52; refine HLn.out.mono ?_; rintro e y3 ⟨rfl, rfl⟩)
            go_roundg (k - (j + 1))
            case measure => omega
            case rel => exact ⟨j + 1, by omega, Nat.le_refl _, by go_num, HB3.out, hs3, Hb3.out, HLe.out⟩
        · obtain rfl : j = k := by omega
          have et : rs.take j = rs := by rw [HN.out, List.take_length]
          rw [et] at Hbq hlq
          have HRx : Hid (R = (strOfNums (rulesL rs), 0)) := Lib.hid (by
            rw [HR.out]
            unfold rtextsR
            rw [if_pos HAll.out, if_neg (by omega)])
          clear et
          go_wp2_with (go_at_call 53; refine (Tryz.Builder_String_any_k bp bp _ _ Hbq.out (Nat.le_of_lt hsq)).mono ?_; rintro e y ⟨rfl, _, hB4, _⟩)
          go_ret2
          rw [HRx.out]
          exact ⟨rfl, HBq.out.trans (hB4.mono hwb)⟩
end Go.Proofs.YtbcoklbfebmpoaaGreatDoor

/-
  THE CONTRACT OF THE REFERENCE'S Same OF RULES.
-/

namespace Go.Proofs.YtbcoklbfebmpoaaGreatDoor
open Go.RowKit
open Utf Term
set_option linter.unusedVariables false
set_option linter.unusedSimpArgs false

theorem load_pat (W : World) (g o : Nat) (l : PatD) (h : W.rangeAt g o (patC l).toList) : (loadVar 35 ⟨g, o, none⟩).run Tryz.prog W = .ok (.agg (patC l)) W :=
  run_loadVar_mid W g o 35 (patC l).toList _ h Tryz.underlying35 rfl (by kernel_rfl)
theorem range_head {W : World} {g : Nat} {p : PatD} {v : Value} {t : TypeId} (h : W.heap[g]? = some (.cells (ruleC p v) t (0, 0))) : W.rangeAt g 0 (patC p).toList := fun j u hu => by
  rw [Nat.zero_add]
  unfold World.cell?
  rw [h]
  have hj : j < 12 := (List.getElem?_eq_some_iff.1 hu).1
  match j, hj with
  | 0, _ | 1, _ | 2, _ | 3, _ | 4, _ | 5, _ | 6, _ | 7, _ | 8, _ | 9, _ | 10, _ | 11, _ => simpa using hu
theorem range_drew {W : World} {g o : Nat} {C : List Value} (h : W.rangeAt g o C) (n : Nat) : (W.drewN n).rangeAt g o C := h
theorem lit_onesR (l : LitD) : ∀ u ∈ (litC l).toList, u.oneCell' = true := by
  intro u hu
  have := litC_one l
  rw [Array.all_eq_true_iff_forall_mem] at this
  exact this u (by simpa using hu)
theorem quiet_load_mid {P : Program} {C : World → Prop} {o : Oper} {a : Act} {K : Act → Prop} (ty : TypeId) (x : Operand) (ho : o.op = .load ty x) (b off : Nat) (hx : a.eval x = .pointer (some ⟨b, off, none⟩)) (cs : List Value) (d : TypeDesc) (hc : ∀ w, C w → w.rangeAt b off cs)
    (hu : P.underlying ty = some d) (hd : d.isRow = true) (hi : (P.info? ty).map (·.size) = some cs.length) (hk : K (a.put o.dst (.agg cs.toArray))) : o.quiet P a C K :=
  ⟨_, fun w hw => by
    unfold Oper.quietAt execOp
    simp only [ho, hx, Sem.run_bind, Sem.run_pure, Result.andThen_ok, run_loadAt_mid w b off ty cs d (hc w hw) hu hd hi]
    exact ⟨rfl, rfl⟩, hk⟩
theorem lex_drewR (B : Nat) (w : World) (n : Nat) : Below B w (w.drewN n) := ⟨rfl, rfl, rfl, Nat.le_refl _, fun _ _ => rfl⟩
theorem BodyS.small {W : World} {v : Value} {ls : List LitD} (h : BodyS W v ls) : ls.length ≤ 9223372036854775807 := by
  rcases h with ⟨_, rfl⟩ | ⟨g, o, cap, _, h2, h3, _⟩
  · exact Nat.zero_le _
  · unfold maxLen at h3; omega
theorem list_same (xs ys : List LitD) (hl : xs.length = ys.length) (h : ∀ i, i < xs.length → xs[i]? = ys[i]?) : xs = ys := by
  apply List.ext_getElem?
  intro i
  by_cases hi : i < xs.length
  · exact h i hi
  · rw [List.getElem?_eq_none (by omega), List.getElem?_eq_none (by omega)]

set_option maxRecDepth 100000 in
set_option maxHeartbeats 8000000 in
theorem refSame_any (p q : PatD) (va vb : Value) (xs ys : List LitD) (w : World) (ha : BodyS w va xs) (hb : BodyS w vb ys) :
    Calls Tryz.prog 14 #[.agg (ruleC p va), .agg (ruleC q vb)] w fun e w' => e = .returned (.bool (decide (p = q) && decide (xs = ys))) ∧ Below w.heap.size w w' := by
  have hsm := ha.small
  obtain ⟨pa, ca, rfl, hca, hra⟩ := ha.form
  obtain ⟨pb, cb, rfl, hcb, hrb⟩ := hb.form
  obtain ⟨W0, hW0⟩ : ∃ W0, W0 = (w.alloc (.cells (ruleC p (.slice pa xs.length ca)) 50)).alloc (.cells (ruleC q (.slice pb ys.length cb)) 50) := ⟨_, rfl⟩
  have hB0 : Below w.heap.size w W0 := by rw [hW0]; exact ((Below.refl _ _).alloc (Nat.le_refl _) _).alloc (by simp) _
  have h2 : W0.heap[w.heap.size]? = some (.cells (ruleC p (.slice pa xs.length ca)) 50 (0, 0)) := by
    rw [hW0]
    have k := (Below.refl (w.alloc (.cells (ruleC p (.slice pa xs.length ca)) 50)).heap.size (w.alloc (.cells (ruleC p (.slice pa xs.length ca)) 50))).alloc (Nat.le_refl _) (.cells (ruleC q (.slice pb ys.length cb)) 50)
    rw [k.block w.heap.size (by simp)]
    exact heap_alloc_new w _
  have h3 : W0.heap[w.heap.size + 1]? = some (.cells (ruleC q (.slice pb ys.length cb)) 50 (0, 0)) := by
    rw [hW0]
    have := heap_alloc_new (w.alloc (.cells (ruleC p (.slice pa xs.length ca)) 50)) (.cells (ruleC q (.slice pb ys.length cb)) 50)
    rwa [World.size_alloc] at this
  have HW0 := Lib.hid hW0
  have HB0 := Lib.hid hB0
  have H2 := Lib.hid h2
  have H3 := Lib.hid h3
  have l2 := load_pat W0 w.heap.size 0 p (range_head h2)
  have l3 := load_pat W0 (w.heap.size + 1) 0 q (range_head h3)
  have hpn := pat_neq p q
  obtain ⟨R, hR⟩ : ∃ R, R = (decide (p = q) && decide (xs = ys)) := ⟨_, rfl⟩
  rw [← hR]
  have HR := Lib.hid hR
  clear hW0 hB0 h2 h3 hR
  go_enter Tryz.func14, Tryz.ntmps14
  go_upto_region 1 with fail
  rw [← HW0.out]
  have ca2 : W0.cell? ⟨w.heap.size, 12, none⟩ = some (.slice pa xs.length ca) := by unfold World.cell?; rw [H2.out]; rfl
  have cb3 : W0.cell? ⟨w.heap.size + 1, 12, none⟩ = some (.slice pb ys.length cb) := by unfold World.cell?; rw [H3.out]; rfl
  by_cases hpq : p = q
  · have hd : decide (p = q) = true := decide_eq_true hpq
    rw [hd] at hpn
    have HR1 := Lib.hid (show R = decide (xs = ys) by rw [HR.out, hd, Bool.true_and])
    clear HR
    have HL := Lib.hid (show (Tryz.prog.info? 35).map (·.size) = some 12 by kernel_rfl)
    have HRa := Lib.hid (range_head H2.out)
    have HRb := Lib.hid (range_head H3.out)
    clear l2 l3 hpq hd
    by_cases hl : xs.length = ys.length
    · obtain ⟨n, hn⟩ : ∃ n, n = xs.length := ⟨_, rfl⟩
      rw [← hn] at hca hra ca2 hsm
      rw [← hl, ← hn] at hcb hrb cb3
      have hny : n = ys.length := by omega
      have HN := Lib.hid hn
      have HNy := Lib.hid hny
      have HA : Hid (∀ U, Below w.heap.size w U → 0 < n → ∃ g o, pa = some ⟨g, o, none⟩ ∧ RowL U g o xs) := Lib.hid (fun U hU h => by obtain ⟨g, o, e, r⟩ := hra h; exact ⟨g, o, e, r.below hU⟩)
      have HY : Hid (∀ U, Below w.heap.size w U → 0 < n → ∃ g o, pb = some ⟨g, o, none⟩ ∧ RowL U g o ys) := Lib.hid (fun U hU h => by obtain ⟨g, o, e, r⟩ := hrb h; exact ⟨g, o, e, r.below hU⟩)
      clear hl hn hny hra hrb ha hb
      go_wp2_with (first
        | (refine wpList_load_mid rfl 35 (.tmp 6) rfl w.heap.size 0 rfl (patC p).toList _ HRa.out Tryz.underlying35 rfl HL.out ?_)
        | (refine wpList_load_mid rfl 35 (.tmp 8) rfl (w.heap.size + 1) 0 rfl (patC q).toList _ HRb.out Tryz.underlying35 rfl HL.out ?_))
      clear ca2 cb3 HRa HRb hpn
      go_loopg [5] n (fun g i wr => ∃ k : Nat, k ≤ n ∧ n - k ≤ g ∧ i = .int .i64 k ∧ (∀ j, j < k → xs[j]? = ys[j]?) ∧ wr.heap[w.heap.size]? = some (.cells (ruleC p (.slice pa n ca)) 50 (0, 0)) ∧ wr.heap[w.heap.size + 1]? = some (.cells (ruleC q (.slice pb n cb)) 50 (0, 0)) ∧ Below w.heap.size w wr)
      case atStart => exact ⟨0, Nat.zero_le _, by omega, rfl, (by intro j hj; omega), (by have := H2.out; rw [← HN.out] at this; exact this), (by have := H3.out; rw [← HNy.out] at this; exact this), HB0.out⟩
      case round =>
        obtain ⟨k, hk, hg, rfl, heq, h2, h3, hB⟩ := hrel
        have HEq := Lib.hid heq
        have K2 := Lib.hid h2
        have K3 := Lib.hid h3
        have HB := Lib.hid hB
        have ca2 : wr.cell? ⟨w.heap.size, 12, none⟩ = some (.slice pa n ca) := by unfold World.cell?; rw [h2]; rfl
        have cb3 : wr.cell? ⟨w.heap.size + 1, 12, none⟩ = some (.slice pb n cb) := by unfold World.cell?; rw [h3]; rfl
        clear heq h2 h3 hB H2 H3 HB0 HW0
        by_cases hlt : k < n
        · have d1 : decide ((k : Int) < (n : Int)) = true := by simpa using hlt
          have d1n : decide (k < n) = true := by simpa using hlt
          obtain ⟨x, hx⟩ : ∃ x, xs[k]? = some x := ⟨_, List.getElem?_eq_getElem (by have := HN.out; omega)⟩
          obtain ⟨y, hy⟩ : ∃ y, ys[k]? = some y := ⟨_, List.getElem?_eq_getElem (by have := HNy.out; omega)⟩
          obtain ⟨ga, oa, rfl, ra⟩ := HA.out wr HB.out (by omega)
          obtain ⟨gb, ob, rfl, rb⟩ := HY.out wr HB.out (by omega)
          have hln := lit_neq x y
          have i0 : (0 : Int) ≤ (k : Int) := by omega
          have i1 : (k : Int) < (n : Int) := by omega
          have i2 : (k : Int) + 1 ≤ 9223372036854775807 := by omega
          have HXy := Lib.hid (show xs[k]? = some x ∧ ys[k]? = some y from ⟨hx, hy⟩)
          have rx := ra.range hx
          have ry := rb.range hy
          have hu := Tryz.underlying37
          have hix : (Tryz.prog.info? 37).map (·.size) = some (litC x).toList.length := by kernel_rfl
          have hiy : (Tryz.prog.info? 37).map (·.size) = some (litC y).toList.length := by kernel_rfl
          have hlx : (litC x).toList.length = 21 := rfl
          have hly : (litC y).toList.length = 21 := rfl
          have hox := lit_onesR x
          have hoy := lit_onesR y
          have harx : litC x = (litC x).toList.toArray := rfl
          have hary : litC y = (litC y).toList.toArray := rfl
          rw [harx, hary] at hln
          clear hx hy ra rb hlt harx hary HN HNy HA HY
          generalize (litC x).toList = CX at *
          generalize (litC y).toList = CY at *
          obtain ⟨b, hd⟩ : ∃ b, b = decide (x = y) := ⟨_, rfl⟩
          rw [← hd] at hln
          have HD := Lib.hid hd
          have RX := Lib.hid rx
          have RY := Lib.hid ry
          have HIX := Lib.hid hix
          have HIY := Lib.hid hiy
          clear hd rx ry hix hiy hlx hly hox hoy hu
          cases b with
          | true =>
            go_wp2_with fail
            refine wp_region_quiet_lit (by kernel_rfl) (by kernel_rfl) ?_
            go_big_quiet_step (fail)
            go_big_quiet_step (fail)
            go_big_quiet_step (fail)
            go_big_quiet_step (fail)
            go_big_quiet_want
            refine quiet_load_mid 37 _ rfl ga (oa + k * 21) rfl CX _ (fun w hw => by obtain ⟨m, rfl⟩ := hw; exact range_drew RX.out m) Tryz.underlying37 rfl HIX.out ?_
            simp only [Act.put, List.setIfInBounds_toArray, List.set_cons_zero, List.set_cons_succ]
            go_big_quiet_on
            go_big_quiet_step (fail)
            go_big_quiet_step (fail)
            go_big_quiet_step (fail)
            go_big_quiet_step (fail)
            go_big_quiet_want
            refine quiet_load_mid 37 _ rfl gb (ob + k * 21) rfl CY _ (fun w hw => by obtain ⟨m, rfl⟩ := hw; exact range_drew RY.out m) Tryz.underlying37 rfl HIY.out ?_
            simp only [Act.put, List.setIfInBounds_toArray, List.set_cons_zero, List.set_cons_succ]
            go_big_quiet_on
            go_big_quiet_step (fail)
            refine wpQuiet_nil ?_
            intro _ hw'
            obtain ⟨nq, hw''⟩ := hw'
            subst hw''
            go_wp2_with fail
            go_roundg (n - (k + 1))
            case rel =>
              refine ⟨k + 1, by omega, Nat.le_refl _, by go_num, ?_, K2.out, K3.out, HB.out.trans ((lex_drewR w.heap.size _ _).mono (Nat.le_refl _))⟩
              intro j hj
              by_cases h : j < k
              · exact HEq.out j h
              · obtain rfl : j = k := by omega
                rw [HXy.out.1, HXy.out.2, of_decide_eq_true HD.out.symm]
            case measure => omega
          | false =>
            go_wp2_with fail
            refine wp_region_quiet_lit (by kernel_rfl) (by kernel_rfl) ?_
            go_big_quiet_step (fail)
            go_big_quiet_step (fail)
            go_big_quiet_step (fail)
            go_big_quiet_step (fail)
            go_big_quiet_want
            refine quiet_load_mid 37 _ rfl ga (oa + k * 21) rfl CX _ (fun w hw => by obtain ⟨m, rfl⟩ := hw; exact range_drew RX.out m) Tryz.underlying37 rfl HIX.out ?_
            simp only [Act.put, List.setIfInBounds_toArray, List.set_cons_zero, List.set_cons_succ]
            go_big_quiet_on
            go_big_quiet_step (fail)
            go_big_quiet_step (fail)
            go_big_quiet_step (fail)
            go_big_quiet_step (fail)
            go_big_quiet_want
            refine quiet_load_mid 37 _ rfl gb (ob + k * 21) rfl CY _ (fun w hw => by obtain ⟨m, rfl⟩ := hw; exact range_drew RY.out m) Tryz.underlying37 rfl HIY.out ?_
            simp only [Act.put, List.setIfInBounds_toArray, List.set_cons_zero, List.set_cons_succ]
            go_big_quiet_on
            go_big_quiet_step (fail)
            refine wpQuiet_nil ?_
            intro _ hw'
            obtain ⟨nq, hw''⟩ := hw'
            subst hw''
            have hR : R = false := by
              rw [HR1.out]
              refine decide_eq_false (fun e => ?_)
              have h1 := HXy.out.1
              rw [e, HXy.out.2] at h1
              exact of_decide_eq_false HD.out.symm (Option.some.inj h1).symm
            go_wp2_with fail
            go_ret
            exact ⟨by rw [hR]; rfl, HB.out.trans (lex_drewR w.heap.size _ _)⟩
        · obtain rfl : k = n := by omega
          have d1 : decide ((k : Int) < (k : Int)) = false := by simp
          have hR : R = true := by
            rw [HR1.out]
            refine decide_eq_true (list_same xs ys (by have := HN.out; have := HNy.out; omega) (fun i hi => HEq.out i (by have := HN.out; omega)))
          clear hlt
          go_wp2_with fail
          go_ret
          exact ⟨by rw [hR]; rfl, HB.out⟩
    · have hR : decide (xs = ys) = false := decide_eq_false (fun e => hl (by rw [e]))
      have d1 : ((xs.length : Int) != (ys.length : Int)) = true := by rw [bne_iff_ne]; omega
      obtain rfl : R = false := by rw [HR1.out, hR]
      clear hl hR hra hrb ha hb
      go_wp2_with (first
        | (refine wpList_load_mid rfl 35 (.tmp 6) rfl w.heap.size 0 rfl (patC p).toList _ HRa.out Tryz.underlying35 rfl HL.out ?_)
        | (refine wpList_load_mid rfl 35 (.tmp 8) rfl (w.heap.size + 1) 0 rfl (patC q).toList _ HRb.out Tryz.underlying35 rfl HL.out ?_))
      go_ret
      exact ⟨rfl, HB0.out⟩
  · have hd : decide (p = q) = false := decide_eq_false hpq
    rw [hd] at hpn
    obtain rfl : R = false := by rw [HR.out, hd, Bool.false_and]
    have HL := Lib.hid (show (Tryz.prog.info? 35).map (·.size) = some 12 by kernel_rfl)
    have HRa := Lib.hid (range_head H2.out)
    have HRb := Lib.hid (range_head H3.out)
    clear l2 l3 hpq hd hra hrb ha hb
    go_wp2_with (first
      | (refine wpList_load_mid rfl 35 (.tmp 6) rfl w.heap.size 0 rfl (patC p).toList _ HRa.out Tryz.underlying35 rfl HL.out ?_)
      | (refine wpList_load_mid rfl 35 (.tmp 8) rfl (w.heap.size + 1) 0 rfl (patC q).toList _ HRb.out Tryz.underlying35 rfl HL.out ?_))
    go_ret
    exact ⟨rfl, HB0.out⟩
end Go.Proofs.YtbcoklbfebmpoaaGreatDoor

