/-
  WHAT THE PROOF STANDS ON, a part of it: RuTexts, RuRefSame, RuTexts2.
-/
import Derived.Test.YtbcoklbfebmpoaaGreatDoorV28
import Derived.Great.BuildSlice
import Derived.Test.YtbcoklbfebmpoaaGreatDoorV25
import Derived.Deep.LoopGhost
import Derived.WalkKit
/-
  CONTRACTS OF rules.ruleText, written, Text, PartText.
-/

namespace Go.Proofs.YtbcoklbfebmpoaaGreatDoor
open Go.RowKit
open Utf Term
set_option linter.unusedVariables false
set_option linter.unusedSimpArgs false

theorem RuleAt.range {W : World} {g o : Nat} {p : PatD} {v : Value} (h : RuleAt W g o p v) : W.rangeAt g o (ruleC p v).toList := fun c u hu => by
  obtain ⟨h0, h1, h2, h3, h4, h5, h6, h7, h8, h9, h10, h11, h12⟩ := h
  have hc : c < 13 := (List.getElem?_eq_some_iff.1 hu).1
  match c, hc with
  | 0, _ => cases hu; exact h0
  | 1, _ => cases hu; exact h1
  | 2, _ => cases hu; exact h2
  | 3, _ => cases hu; exact h3
  | 4, _ => cases hu; exact h4
  | 5, _ => cases hu; exact h5
  | 6, _ => cases hu; exact h6
  | 7, _ => cases hu; exact h7
  | 8, _ => cases hu; exact h8
  | 9, _ => cases hu; exact h9
  | 10, _ => cases hu; exact h10
  | 11, _ => cases hu; exact h11
  | 12, _ => cases hu; exact h12
  | n + 13, h => omega
theorem ruleC_one (p : PatD) (q : Option Addr) (n c : Nat) : (ruleC p (.slice q n c)).toList.toArray.all (·.oneCell') = true := by simp [Value.oneCell']
theorem stored_cells (w : World) (Z : Array Value) (C : List Value) (hz : Z.size = C.length) (t : TypeId) :
    (w.alloc (.cells Z t)).there w.heap.size 0 C.length ∧ Stored w ((w.alloc (.cells Z t)).setCells w.heap.size 0 C) C := by
  have hth : (w.alloc (.cells Z t)).there w.heap.size 0 C.length := fun j hj => by
    rw [Nat.zero_add, World.cell?_alloc_at _ _ _ _ rfl]
    refine ⟨by show (Z[j]?).isSome = true; rw [Array.getElem?_eq_getElem (by omega)]; rfl, ?_⟩
    have : (w.alloc (.cells Z t)).heap[w.heap.size]? = some (.cells Z t (0, 0)) := heap_alloc_new w _
    unfold World.frozen?
    simp only
    rw [this]
    simp
  refine ⟨hth, World.rangeAt_setCells_same _ _ _ _ hth, ?_, ?_⟩
  · have : ∀ (cs : List Value) (o : Nat) (U : World), Below w.heap.size w U → Below w.heap.size w (U.setCells w.heap.size o cs) := by
      intro cs
      induction cs with
      | nil => intro o U h; exact h
      | cons c cs ih => intro o U h; exact ih (o + 1) _ (h.setCell (Nat.le_refl _) _)
    exact this C 0 _ ((Below.refl _ _).alloc (Nat.le_refl _) _)
  · have : ∀ (cs : List Value) (o : Nat) (U : World), (U.setCells w.heap.size o cs).heap.size = U.heap.size := by
      intro cs
      induction cs with
      | nil => intro o U; rfl
      | cons c cs ih => intro o U; show ((U.setCell _ _).setCells _ _ _).heap.size = _; rw [ih]; simp
    rw [this]; simp

theorem tailL_len : ∀ (ls : List LitD), (∀ l ∈ ls, litB l = true) → (tailL ls).length ≤ 75502 * ls.length
  | [], _ => by simp [tailL]
  | l :: ls, h => by
    have h1 := litL_len (h l (by simp))
    have h2 := tailL_len ls (fun x hx => h x (by simp [hx]))
    rw [tailL]
    simp only [List.length_cons, List.length_append]
    omega
theorem bodyL_len (ls : List LitD) (h : ∀ l ∈ ls, litB l = true) : (bodyL ls).length ≤ 75502 * ls.length := by
  cases ls with
  | nil => simp [bodyL]
  | cons l ls =>
    have h1 := litL_len (h l (by simp))
    have h2 := tailL_len ls (fun x hx => h x (by simp [hx]))
    rw [bodyL]
    simp only [List.length_cons, List.length_append]
    omega
theorem rule_parts {p : PatD} {ls : List LitD} (h : ruleB (p, ls) = true) : ls.length ≤ 64 ∧ (∀ l ∈ ls, litB l = true) ∧ patB p = true := by
  unfold ruleB at h
  simp only [Bool.and_eq_true, decide_eq_true_eq] at h
  exact ⟨h.1, fun l hl => (List.all_eq_true.1 h.2.1) l hl, h.2.2⟩
theorem ruleL_len {p : PatD} {ls : List LitD} (h : ruleB (p, ls) = true) : (ruleL (p, ls)).length ≤ 5000000 := by
  obtain ⟨h1, h2, h3⟩ := rule_parts h
  have hp := patL_len h3
  have hb := bodyL_len ls h2
  unfold ruleL
  simp only [List.length_append, List.length_cons, List.length_nil]
  split
  · simp; omega
  · simp; omega

set_option maxRecDepth 100000 in
set_option maxHeartbeats 4000000 in
theorem ruRule_any (p : PatD) (v : Value) (ls : List LitD) (hok : ruleB (p, ls) = true) (m : Int) (w : World) (hm : HasMax w m) (hv : BodyS w v ls) :
    Calls Tryz.prog 50 #[.agg (ruleC p v)] w fun e w' => e = .returned (.string (strOfNums (ruleL (p, ls)))) ∧ Below w.heap.size w w' := by
  obtain ⟨h64, hls, hp⟩ := rule_parts hok
  obtain ⟨⟨a0, a1, a2, a3⟩, ⟨b0, b1, b2, b3⟩, ⟨c0, c1, c2, c3⟩⟩ := p
  have hp' := hp
  unfold patB at hp
  simp only [Bool.and_eq_true] at hp
  have HB := Lib.hid (below_new w (.cells (ruleC ((a0, a1, a2, a3), (b0, b1, b2, b3), (c0, c1, c2, c3)) v) 50))
  have Hm := Lib.hid (cell_below HB.out hm)
  have HP := Lib.hid (fun W (h : HasMax W m) => ruPatText_any a0 a1 a2 a3 b0 b1 b2 b3 c0 c1 c2 c3 hp.1.1 hp.1.2 hp.2 m W h)
  have hpz := patT_len (a0 := a0) (a1 := a1) (a2 := a2) (a3 := a3) (b0 := b0) (b1 := b1) (b2 := b2) (b3 := b3) (c0 := c0) (c1 := c1) (c2 := c2) (c3 := c3) hp.1.1 hp.1.2 hp.2
  have hpt : bs (patT a0 a1 a2 a3 b0 b1 b2 b3 c0 c1 c2 c3) = patL ((a0, a1, a2, a3), (b0, b1, b2, b3), (c0, c1, c2, c3)) := bs_strOfNums (patL_byte _)
  cases ls with
  | nil =>
    obtain ⟨ptr, cap, rfl, hcap, _⟩ := hv.form
    have HR : Hid (strOfNums (ruleL (((a0, a1, a2, a3), (b0, b1, b2, b3), (c0, c1, c2, c3)), [])) = patT a0 a1 a2 a3 b0 b1 b2 b3 c0 c1 c2 c3 ++ ⟨#[32]⟩ ++ ⟨#[46]⟩) := Lib.hid (by
      refine (strOf_eq ?_).symm
      rw [bs_app, bs_app, hpt]
      show patL _ ++ [32] ++ [46] = patL _ ++ ([] ++ [32, 46])
      simp)
    generalize patT a0 a1 a2 a3 b0 b1 b2 b3 c0 c1 c2 c3 = PT at *
    generalize strOfNums (ruleL _) = R at *
    have f0 : ¬ 9223372036854775807 < PT.size + 1 := by omega
    have f1 : ¬ 9223372036854775807 < PT.size + 1 + 1 := by omega
    clear hm hp hp' hv hok hls hpt hpz
    go_enter Tryz.func50, Tryz.ntmps50
    go_wp2_with (go_at_call 82; refine (HP.out _ Hm.out).mono ?_; rintro e w1 ⟨rfl, hB1⟩; obtain ⟨hc1, hf1⟩ := bcellR hB1)
    go_ret
    exact ⟨ret_str HR.out.symm, below_step HB.out hB1⟩
  | cons l0 ls =>
    rcases hv with ⟨_, h⟩ | ⟨g, o, cap, rfl, hcap, hcm, hrow⟩
    · cases h
    have HR : Hid (strOfNums (ruleL (((a0, a1, a2, a3), (b0, b1, b2, b3), (c0, c1, c2, c3)), l0 :: ls)) = patT a0 a1 a2 a3 b0 b1 b2 b3 c0 c1 c2 c3 ++ (⟨#[32, 58, 45, 32]⟩ ++ strOfNums (bodyL (l0 :: ls))) ++ ⟨#[32]⟩ ++ ⟨#[46]⟩) := Lib.hid (by
      refine (strOf_eq ?_).symm
      rw [bs_app, bs_app, bs_app, bs_app, hpt, bs_strOfNums (bodyL_byte _)]
      show patL _ ++ ([32, 58, 45, 32] ++ bodyL (l0 :: ls)) ++ [32] ++ [46] = patL _ ++ ((if l0 :: ls = [] then [] else [32, 58, 45, 32] ++ bodyL (l0 :: ls)) ++ [32, 46])
      rw [if_neg (by simp)]
      simp)
    have HBd := Lib.hid (fun W (k : Below w.heap.size w W) (h : HasMax W m) => ruBody_any g o cap l0 ls h64 hcap hls m W h (hrow.below k))
    have hbz : (strOfNums (bodyL (l0 :: ls))).size ≤ 75502 * 64 := by rw [strOfNums_size]; have := bodyL_len (l0 :: ls) hls; have : (l0 :: ls).length ≤ 64 := h64; omega
    generalize patT a0 a1 a2 a3 b0 b1 b2 b3 c0 c1 c2 c3 = PT at *
    generalize strOfNums (ruleL _) = R at *
    generalize strOfNums (bodyL (l0 :: ls)) = BT at *
    have f0 : ¬ 9223372036854775807 < 4 + BT.size := by omega
    have f1 : ¬ 9223372036854775807 < PT.size + (4 + BT.size) := by omega
    have f2 : ¬ 9223372036854775807 < PT.size + (4 + BT.size) + 1 := by omega
    have f3 : ¬ 9223372036854775807 < PT.size + (4 + BT.size) + 1 + 1 := by omega
    have hgt : decide ((0 : Int) < (ls.length : Int) + 1) = true := by simp <;> omega
    clear hm hp hp' hrow hok hls hpt hpz hbz h64 hcap
    go_enter Tryz.func50, Tryz.ntmps50
    go_wp2_with (go_at_call 82; refine (HP.out _ Hm.out).mono ?_; rintro e w1 ⟨rfl, hB1⟩; obtain ⟨hc1, hf1⟩ := bcellR hB1; have Hm1 := Lib.hid (cell_below hB1 Hm.out); have HB1 := Lib.hid (below_step HB.out hB1))
    go_wp2_with (go_at_call 32; refine (HBd.out _ HB1.out Hm1.out).mono ?_; rintro e w2 ⟨rfl, hB2⟩)
    go_ret
    exact ⟨ret_str HR.out.symm, below_step HB1.out hB2⟩

theorem fold_set : ∀ (L : List Value) (k : Nat) (Z : Array Value) (i : Nat), k + L.length ≤ Z.size →
    ((L.zipIdx k).foldl (fun cs x => cs.setIfInBounds x.2 x.1) Z)[i]? = if k ≤ i ∧ i < k + L.length then L[i - k]? else Z[i]?
  | [], k, Z, i, _ => by simp; intro h1 h2; omega
  | c :: L, k, Z, i, h => by
    rw [List.zipIdx_cons, List.foldl_cons]
    simp only [List.length_cons] at h
    rw [fold_set L (k + 1) _ i (by simp; omega)]
    by_cases h1 : i = k
    · subst h1
      rw [if_neg (by omega), if_pos (by simp), Array.getElem?_setIfInBounds_self_of_lt (by omega), Nat.sub_self]
      rfl
    · rw [Array.getElem?_setIfInBounds_ne (fun e => h1 e.symm)]
      by_cases h2 : k + 1 ≤ i ∧ i < k + 1 + L.length
      · rw [if_pos h2, if_pos (by simp; omega), show i - k = (i - (k + 1)) + 1 by omega, List.getElem?_cons_succ]
      · rw [if_neg h2, if_neg (by simp; omega)]
theorem fill_one (C : List Value) (Z : Array Value) (hz : Z.size = C.length) : Instr.fill (fun i => some (i * C.length, C.length)) Z [(0, .agg C.toArray)] = some C.toArray := by
  have hc : (Value.agg C.toArray).cells = C.toArray := rfl
  rw [Instr.fill]
  simp only [hc, Nat.zero_mul, Nat.zero_add]
  rw [if_neg (by simp; omega), Instr.fill]
  congr 1
  rw [← Array.foldl_toList, Array.toList_zipIdx]
  apply Array.ext_getElem?
  intro i
  rw [fold_set _ 0 Z i (by simp; omega)]
  simp only [Nat.zero_le, true_and, Nat.zero_add, Nat.sub_zero, List.getElem?_toArray]
  split
  · rfl
  · rename_i h
    rw [Array.getElem?_eq_none (by omega), List.getElem?_eq_none (by omega)]
/-- A slice literal of one element of whatever cells. -/
theorem wpList_buildOne {P : Program} {ops : Array Oper} {rest : List Oper} {o : Oper} {a : Act} {w : World} {Q : Exit → Act → World → Prop} (hg : o.guard = none) (t e : TypeId) (x : Operand) (ho : o.op = .buildSlice t 1 #[(0, x)])
    (C : List Value) (hx : a.eval x = .agg C.toArray) (hu : P.underlying t = some (.slice e)) (hi : (P.info? e).map (·.size) = some C.length) (hz : ((P.info? e).bind (·.zero)).isSome = true) (hp : 0 < C.length) (hs : C.length ≤ 1000)
    (h : wpList P ops Q rest (a.put o.dst (.slice (some ⟨w.heap.size, 0, none⟩) 1 1)) (w.alloc (.cells C.toArray e))) : wpList P ops Q (o :: rest) a w := by
  cases hie : P.info? e with
  | none => simp [hie] at hi
  | some ie =>
    simp only [hie, Option.map_some, Option.some.injEq, Option.bind_some] at hi hz
    obtain ⟨z, hzz⟩ := Option.isSome_iff_exists.1 hz
    refine wpList_buildSlice hg t e 1 _ ho C.toArray ie z hu hie hzz (by rw [hi]; omega) (by rw [hi]; omega) ?_ h
    rw [hi]
    have : (#[(0, x)].map fun (i, x) => (i, a.eval x)).toList = [(0, .agg C.toArray)] := by simp [hx]
    rw [this]
    exact fill_one C _ (by simp)

theorem range_new (w : World) (C : List Value) (t : TypeId) : (w.alloc (.cells C.toArray t)).rangeAt w.heap.size 0 C := fun j v h => by
  rw [Nat.zero_add, World.cell?_alloc_at _ _ _ _ rfl]
  show C.toArray[j]? = some v
  rw [List.getElem?_toArray]
  exact h
theorem range_below {w u : World} {b o : Nat} {C : List Value} (h : w.rangeAt b o C) (k : Below w.heap.size w u) : u.rangeAt b o C := fun j v e => (k.cell (World.block_lt_of_cell? _ _ (h j v e))).trans (h j v e)

end Go.Proofs.YtbcoklbfebmpoaaGreatDoor

/-
  THE CONTRACT OF THE REFERENCE'S Same OF RULES.
-/

namespace Go.Proofs.YtbcoklbfebmpoaaGreatDoor
open Go.RowKit
open Utf Term
set_option linter.unusedVariables false
set_option linter.unusedSimpArgs false

theorem BodyS.small {W : World} {v : Value} {ls : List LitD} (h : BodyS W v ls) : ls.length ≤ 9223372036854775807 := by
  rcases h with ⟨_, rfl⟩ | ⟨g, o, cap, _, h2, h3, _⟩
  · exact Nat.zero_le _
  · unfold maxLen at h3; omega
end Go.Proofs.YtbcoklbfebmpoaaGreatDoor

/-
  THE CONTRACTS OF rules.Texts, Compare.
-/

namespace Go.Proofs.YtbcoklbfebmpoaaGreatDoor
open Go.RowKit
open Utf Term
set_option linter.unusedVariables false
set_option linter.unusedSimpArgs false

def VastR (r : RuleD) : Prop := VastP r.1 ∧ ∀ l ∈ r.2, VastL l
/-- The text of rules, and an error. -/
def rtextsR (rs : List RuleD) : ByteArray × Nat := if rs.all ruleB = true then (if 1048576 < (rulesL rs).length then (⟨#[]⟩, 3) else (strOfNums (rulesL rs), 0)) else (⟨#[]⟩, 2)
theorem SliceRu.form {W : World} {v : Value} {rs : List RuleD} (h : SliceRu W v rs) : ∃ p cap, v = .slice p rs.length cap ∧ rs.length ≤ cap ∧ (0 < rs.length → ∃ g o, p = some ⟨g, o, none⟩ ∧ RowRu W g o rs) := by
  rcases h with ⟨rfl, rfl⟩ | ⟨g, o, cap, rfl, h2, h3, h4⟩
  · exact ⟨none, 0, rfl, Nat.le_refl _, fun h => absurd h (by simp)⟩
  · exact ⟨_, cap, rfl, h2, fun _ => ⟨g, o, rfl, h4⟩⟩
theorem take_snocR {α : Type} {l : List α} {k : Nat} {x : α} (h : l[k]? = some x) : l.take (k + 1) = l.take k ++ [x] := by
  rw [List.take_add_one, h]; rfl
theorem rulesL_snoc (rs : List RuleD) (r : RuleD) : rulesL (rs ++ [r]) = rulesL rs ++ (ruleL r ++ [10]) := by simp [rulesL]

/-- What a round does with the rule's own cells: read, stored anew. -/
structure RuleCells (C : List Value) : Prop where
  len : C.length = 13
  one : C.toArray.all (·.oneCell') = true
  info : (Tryz.prog.info? 50).map (·.size) = some C.length
  info' : (Tryz.prog.info? 50).map (·.size) = some C.toArray.size
theorem ruleCells (p : PatD) (q : Option Addr) (n c : Nat) : RuleCells (ruleC p (.slice q n c)).toList :=
  ⟨rfl, ruleC_one p q n c, by kernel_rfl, by kernel_rfl⟩

set_option maxRecDepth 100000 in
set_option maxHeartbeats 8000000 in
theorem ruTexts_any (v : Value) (rs : List RuleD) (hn : rs.length ≤ 1000000) (hf : ∀ r ∈ rs, VastR r) (m : Int) (w : World) (hm : HasMax w m) (hv : SliceRu w v rs) :
    Calls Tryz.prog 20 #[v] w fun e w' => e = .returned (.tuple #[.string (rtextsR rs).1, .int .i64 (rtextsR rs).2]) ∧ Below w.heap.size w w' := by
  obtain ⟨ptr, cap, rfl, hcap, hp⟩ := hv.form
  have HP : Hid (∀ W, Below w.heap.size w W → 0 < rs.length → ∃ g o, ptr = some ⟨g, o, none⟩ ∧ RowRu W g o rs) := Lib.hid (fun W k h => by
    obtain ⟨g, o, e, r⟩ := hp h
    exact ⟨g, o, e, r.below k⟩)
  have Hm := Lib.hid hm
  have HFt := Lib.hid hf
  obtain ⟨n, hnn⟩ : ∃ n, n = rs.length := ⟨_, rfl⟩
  have HN := Lib.hid hnn
  rw [← hnn] at HP hn hcap ⊢
  obtain ⟨R, hR⟩ : ∃ R, R = rtextsR rs := ⟨_, rfl⟩
  rw [← hR]
  have HR := Lib.hid hR
  clear hp hm hf hnn hv hR
  go_enter Tryz.func20, Tryz.ntmps20
  go_wp2_with fail
  go_loopg [11] n (fun gg i wr => ∃ k : Nat, k ≤ n ∧ n - k ≤ gg ∧ i = .int .i64 k ∧ (rs.take k).all ruleB = true ∧ Below w.heap.size w wr)
  case atStart => exact ⟨0, Nat.zero_le _, by omega, rfl, by simp, Below.refl _ _⟩
  case round =>
    obtain ⟨k, hk, hgg, rfl, hall, hB⟩ := hrel
    have HAl := Lib.hid hall
    have HB := Lib.hid hB
    clear hall hB
    by_cases hlt : k < n
    · obtain ⟨x, hx⟩ : ∃ x, rs[k]? = some x := ⟨_, List.getElem?_eq_getElem (by have := HN.out; omega)⟩
      obtain ⟨g, o, rfl, hrow⟩ := HP.out wr HB.out (by omega)
      obtain ⟨vb, hra, hbd⟩ := hrow k x hx
      have hC := hra.range
      have hfx := HFt.out x (List.mem_of_getElem? hx)
      have hMp := fun W (hW : HasMax W m) (k : Below wr.heap.size wr W) => ruMay_any x.1 vb x.2 hfx.1 hfx.2 m W hW (hbd.below k)
      obtain ⟨bp, bc, rfl, _, _⟩ := hbd.form
      have hrc := ruleCells x.1 bp x.2.length bc
      have harr : ruleC x.1 (.slice bp x.2.length bc) = (ruleC x.1 (.slice bp x.2.length bc)).toList.toArray := rfl
      rw [harr] at hMp
      clear harr
      generalize (ruleC x.1 (.slice bp x.2.length bc)).toList = C at *
      have hst := stored_cells wr (ruleC zPa (.slice none 0 0)) C (by rw [hrc.len]; rfl) 50
      have hth : (wr.alloc (.cells (ruleC zPa (.slice none 0 0)) 50)).there wr.heap.size 0 C.toArray.size := by rw [List.size_toArray]; exact hst.1
      have HC := Lib.hid hC
      have HRc := Lib.hid hrc
      have HTh := Lib.hid hth
      have HSt := Lib.hid hst.2
      have HX := Lib.hid hx
      have HMp := Lib.hid hMp
      clear hrow hfx hMp hrc hst hth hC hx hra hbd
      go_upto_region 4 with (first
        | (refine wpList_load_mid rfl 50 (.tmp 13) rfl g (o + k * 13) rfl C _ HC.out Tryz.underlying50 rfl HRc.out.info ?_)
        | (refine wpList_store_mid rfl 50 (.tmp 5) (.tmp 14) rfl wr.heap.size 0 C.toArray rfl rfl HTh.out HRc.out.info' HRc.out.one ?_))
      generalize hW : World.setCells (World.alloc wr (Obj.cells _ _)) _ _ _ = W2
      have hf2 : Stored wr W2 C := by rw [← hW]; exact HSt.out
      obtain ⟨hr2, hB2, _⟩ := hf2
      have HR2 := Lib.hid hr2
      have HB2 := Lib.hid hB2
      have HM := Lib.hid (HMp.out W2 (cell_below (HB.out.trans (hB2.mono HB.out.size)) Hm.out) hB2)
      have HB3 := Lib.hid (HB.out.trans (hB2.mono HB.out.size))
      clear hW hr2 hB2 HTh HSt HMp HC
      cases hadd : ruleB (x.1, x.2) with
      | false =>
        have HRx : Hid (R = (⟨#[]⟩, 2)) := Lib.hid (by
          rw [HR.out]
          unfold rtextsR
          rw [if_neg]
          intro h
          rw [List.all_eq_true] at h
          have := h x (List.mem_of_getElem? HX.out)
          rw [show x = (x.1, x.2) from rfl, hadd] at this
          cases this)
        rw [hadd] at HM
        clear hadd
        go_wp2_with (first
          | (refine wpList_load_mid rfl 50 (.tmp 5) rfl wr.heap.size 0 rfl C _ HR2.out Tryz.underlying50 rfl HRc.out.info ?_)
          | (go_at_call 48; refine HM.out.mono ?_; rintro e y ⟨rfl, hY⟩))
        go_ret2
        rw [HRx.out]
        exact ⟨rfl, HB3.out.trans (hY.mono HB3.out.size)⟩
      | true =>
        rw [hadd] at HM
        have HAl2 : Hid ((rs.take (k + 1)).all ruleB = true) := Lib.hid (by rw [take_snocR HX.out, List.all_append, HAl.out]; simp; exact hadd)
        clear hadd
        go_wp2_with (first
          | (refine wpList_load_mid rfl 50 (.tmp 5) rfl wr.heap.size 0 rfl C _ HR2.out Tryz.underlying50 rfl HRc.out.info ?_)
          | (go_at_call 48; refine HM.out.mono ?_; rintro e y ⟨rfl, hY⟩))
        go_roundg (n - (k + 1))
        case measure => omega
        case rel => exact ⟨k + 1, by omega, Nat.le_refl _, by go_num, HAl2.out, HB3.out.trans (hY.mono HB3.out.size)⟩
    · obtain rfl : k = n := by omega
      have HAll : Hid (rs.all ruleB = true) := Lib.hid (by have := HAl.out; rwa [HN.out, List.take_length] at this)
      clear HAl
      have hB0 := below_new wr (.cells #[.pointer none, .slice none 0 0] 107)
      have hb0 : Bld wr.heap.size wr.heap.size [] (wr.alloc (.cells #[.pointer none, .slice none 0 0] 107)) :=
        .inl ⟨Nat.le_refl _, .slice none 0 0, World.alloc_heap_new wr (.cells #[.pointer none, .slice none 0 0] 107), World.ownsRowF_nil _ _ _ _, by simp [Value.ownBlock]⟩
      have hs0 : wr.heap.size < (wr.alloc (.cells #[.pointer none, .slice none 0 0] 107)).heap.size := by simp
      have hwb : w.heap.size ≤ wr.heap.size := HB.out.size
      obtain ⟨W0, hW0⟩ : ∃ W0, W0 = wr.alloc (.cells #[.pointer none, .slice none 0 0] 107) := ⟨_, rfl⟩
      rw [← hW0] at hB0 hb0 hs0
      have HW0 := Lib.hid hW0
      have HB0 := Lib.hid (HB.out.trans (hB0.mono hwb))
      have Hb0 := Lib.hid hb0
      clear hW0 hB0 hb0 HB
      go_upto_region 8 with fail
      rw [← HW0.out]
      generalize wr.heap.size = bp at *
      clear HW0
      go_wp2_with fail
      go_loopg [21] k (fun gg i wq => ∃ j : Nat, j ≤ k ∧ k - j ≤ gg ∧ i = .int .i64 j ∧ Below w.heap.size w wq ∧ bp < wq.heap.size ∧ Bld bp bp (Lib.byteCells (u8s (rulesL (rs.take j)))) wq ∧ (rulesL (rs.take j)).length ≤ 1048576)
      case atStart => exact ⟨0, Nat.zero_le _, by omega, rfl, HB0.out, hs0, Hb0.out, by simp [rulesL]⟩
      case round =>
        obtain ⟨j, hj, hgg2, rfl, hBq, hsq, hbq, hlq⟩ := hrel
        have HBq := Lib.hid hBq
        have Hbq := Lib.hid hbq
        clear hBq hbq HB0 Hb0 hs0
        by_cases hlt : j < k
        · obtain ⟨x, hx⟩ : ∃ x, rs[j]? = some x := ⟨_, List.getElem?_eq_getElem (by have := HN.out; omega)⟩
          obtain ⟨g, o, rfl, hrow⟩ := HP.out wr HBq.out (by omega)
          obtain ⟨vb, hra, hbd⟩ := hrow j x hx
          have hC := hra.range
          have hadd : ruleB (x.1, x.2) = true := List.all_eq_true.1 HAll.out x (List.mem_of_getElem? hx)
          have hln := ruleL_len hadd
          have hMp := fun W (hW : HasMax W m) (k : Below wr.heap.size wr W) => ruRule_any x.1 vb x.2 hadd m W hW (hbd.below k)
          obtain ⟨bq, bc, rfl, _, _⟩ := hbd.form
          have hrc := ruleCells x.1 bq x.2.length bc
          have harr : ruleC x.1 (.slice bq x.2.length bc) = (ruleC x.1 (.slice bq x.2.length bc)).toList.toArray := rfl
          rw [harr] at hMp
          clear harr
          generalize (ruleC x.1 (.slice bq x.2.length bc)).toList = C at *
          have hst := stored_cells wr (ruleC zPa (.slice none 0 0)) C (by rw [hrc.len]; rfl) 50
          have hth : (wr.alloc (.cells (ruleC zPa (.slice none 0 0)) 50)).there wr.heap.size 0 C.toArray.size := by rw [List.size_toArray]; exact hst.1
          have hnx : rulesL (rs.take (j + 1)) = rulesL (rs.take j) ++ (ruleL (x.1, x.2) ++ [10]) := by rw [take_snocR hx, rulesL_snoc]
          have HC := Lib.hid hC
          have HRc := Lib.hid hrc
          have HTh := Lib.hid hth
          have HSt := Lib.hid hst.2
          have HMp := Lib.hid hMp
          have HNx := Lib.hid hnx
          have HCu := Lib.hid (cells_u8s (ruleL (x.1, x.2)))
          have HSu := Lib.hid (strOfNums_size (ruleL (x.1, x.2)))
          clear hrow hMp hrc hst hth hC hx hra hbd hadd hnx
          generalize ruleL (x.1, x.2) = TL at *
          go_upto_region 11 with (first
            | (refine wpList_load_mid rfl 50 (.tmp 23) rfl g (o + j * 13) rfl C _ HC.out Tryz.underlying50 rfl HRc.out.info ?_)
            | (refine wpList_store_mid rfl 50 (.tmp 8) (.tmp 24) rfl wr.heap.size 0 C.toArray rfl rfl HTh.out HRc.out.info' HRc.out.one ?_))
          generalize hW : World.setCells (World.alloc wr (Obj.cells _ _)) _ _ _ = W2
          have hf2 : Stored wr W2 C := by rw [← hW]; exact HSt.out
          obtain ⟨hr2, hB2, _⟩ := hf2
          have HR2 := Lib.hid hr2
          have hB3 := HBq.out.trans (hB2.mono HBq.out.size)
          have HTT := Lib.hid (HMp.out W2 (cell_below hB3 Hm.out) hB2)
          have HB1 := Lib.hid hB3
          have Hb1 := Lib.hid (bld_below Hbq.out hB2)
          have hs1 : bp < W2.heap.size := by have := hB2.size; omega
          clear hW hr2 hB2 HTh HSt HMp HC hB3
          have hsz : (strOfNums TL).size ≤ 5000000 := by have := HSu.out; omega
          have hbl : (Lib.byteCells (u8s (rulesL (rs.take j)))).length ≤ 1048576 := by rw [Lib.byteCells_length]; unfold u8s; rw [List.length_map]; exact hlq
          have hbl1 : (Lib.byteCells (u8s (rulesL (rs.take j) ++ TL))).length ≤ 6200000 := by rw [Lib.byteCells_length]; unfold u8s; rw [List.length_map, List.length_append]; omega
          go_upto_region 12 with (first
            | (refine wpList_load_mid rfl 50 (.tmp 8) rfl wr.heap.size 0 rfl C _ HR2.out Tryz.underlying50 rfl HRc.out.info ?_)
            | (go_at_call 50; refine HTT.out.mono ?_; rintro e y ⟨rfl, hY⟩; have HBy := Lib.hid (HB1.out.trans (hY.mono HB1.out.size)); have Hby := Lib.hid (bld_below Hb1.out hY); have hsy := Lib.hid (show bp < y.heap.size by have := hY.size; omega))
            | (go_at_call 49; refine (writeString_any bp bp _ _ _ Hby.out (by omega) (Nat.le_of_lt hsy.out)).mono ?_; rintro e y1 ⟨rfl, hb2, hw2⟩))
          have Hb2 : Hid (Bld bp bp (Lib.byteCells (u8s (rulesL (rs.take j) ++ TL))) y1) := Lib.hid (.inr (by rw [HCu.out] at hb2; rw [u8s_append, Lib.byteCells_append]; exact hb2))
          have HB2 := Lib.hid (HBy.out.trans (hw2.1.mono hwb))
          have hs2 : bp < y1.heap.size := Nat.lt_of_lt_of_le hsy.out hw2.1.size
          clear hb2 hw2 Hby HBy hY HTT HB1 Hb1
          go_upto_region 13 with (go_at_call 51; refine (writeByte_any bp bp _ 10 _ Hb2.out (by omega) (Nat.le_of_lt hs2)).mono ?_; rintro e y2 ⟨rfl, hb3, hw3⟩)
          have Hb3 : Hid (Bld bp bp (Lib.byteCells (u8s (rulesL (rs.take (j + 1))))) y2) := Lib.hid (.inr (by rw [HNx.out, ← List.append_assoc, u8s_append, Lib.byteCells_append]; exact hb3))
          have HB3 := Lib.hid (HB2.out.trans (hw3.1.mono hwb))
          have hs3 : bp < y2.heap.size := Nat.lt_of_lt_of_le hs2 hw3.1.size
          have hlen3 : (Lib.byteCells (u8s (rulesL (rs.take (j + 1))))).length = (rulesL (rs.take (j + 1))).length := by rw [Lib.byteCells_length]; unfold u8s; rw [List.length_map]
          have HLn := Lib.hid (Tryz.Builder_Len_f bp bp _ y2 Hb3.out)
          rw [hlen3] at HLn
          clear hb3 hw3 Hb2 HB2 hlen3
          by_cases hlong : 1048576 < (rulesL (rs.take (j + 1))).length
          · have d3 : decide ((1048576 : Int) < ((rulesL (rs.take (j + 1))).length : Int)) = true := by simp; omega
            have HRx : Hid (R = (⟨#[]⟩, 3)) := Lib.hid (by
              rw [HR.out]
              unfold rtextsR
              rw [if_pos HAll.out, if_pos]
              have e : rulesL rs = rulesL (rs.take (j + 1)) ++ rulesL (rs.drop (j + 1)) := by
                unfold rulesL
                rw [← List.flatMap_append, List.take_append_drop]
              rw [e, List.length_append]
              omega)
            generalize (rulesL (rs.take (j + 1))).length = LN at *
            go_wp2_with (go_at_call 52; refine HLn.out.mono ?_; rintro e y3 ⟨rfl, rfl⟩)
            go_ret2
            rw [HRx.out]
            exact ⟨rfl, HB3.out⟩
          · have d3 : decide ((1048576 : Int) < ((rulesL (rs.take (j + 1))).length : Int)) = false := by simp; omega
            have hle : (rulesL (rs.take (j + 1))).length ≤ 1048576 := by omega
            have HLe := Lib.hid hle
            clear hle hlong
            obtain ⟨LN, hLN⟩ : ∃ LN, LN = (rulesL (rs.take (j + 1))).length := ⟨_, rfl⟩
            rw [← hLN] at HLn d3
            clear hLN
            go_wp2_with (go_at_call 52; refine HLn.out.mono ?_; rintro e y3 ⟨rfl, rfl⟩)
            go_roundg (k - (j + 1))
            case measure => omega
            case rel => exact ⟨j + 1, by omega, Nat.le_refl _, by go_num, HB3.out, hs3, Hb3.out, HLe.out⟩
        · obtain rfl : j = k := by omega
          have et : rs.take j = rs := by rw [HN.out, List.take_length]
          rw [et] at Hbq hlq
          have HRx : Hid (R = (strOfNums (rulesL rs), 0)) := Lib.hid (by
            rw [HR.out]
            unfold rtextsR
            rw [if_pos HAll.out, if_neg (by omega)])
          clear et
          go_wp2_with (go_at_call 53; refine (Tryz.Builder_String_any_k bp bp _ _ Hbq.out (Nat.le_of_lt hsq)).mono ?_; rintro e y ⟨rfl, _, hB4, _⟩)
          go_ret2
          rw [HRx.out]
          exact ⟨rfl, HBq.out.trans (hB4.mono hwb)⟩
end Go.Proofs.YtbcoklbfebmpoaaGreatDoor

