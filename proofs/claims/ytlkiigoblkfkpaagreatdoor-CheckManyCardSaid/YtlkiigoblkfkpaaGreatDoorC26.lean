/-
  WHAT THE PROOF STANDS ON, a part of it: RuMay2, RuV, RuRefSame.
-/
import Derived.Test.YtlkiigoblkfkpaaGreatDoorC24
import Derived.Deep.LoopGhost
import Derived.WalkKit
import Derived.Deep.Cut
import Derived.Deep.DeepCutAuto
/-
  THE CONTRACT OF rules.May.
-/

namespace Go.Proofs.YtlkiigoblkfkpaaGreatDoor
open Go.RowKit
open Utf Term
set_option linter.unusedVariables false
set_option linter.unusedSimpArgs false

theorem PatAt.new (w : World) (p : PatD) (v : Value) (t : TypeId) : PatAt (w.alloc (.cells (ruleC p v) t)) w.heap.size p := by
  have key : ∀ j u, (ruleC p v)[j]? = some u → (w.alloc (.cells (ruleC p v) t)).cell? ⟨w.heap.size, j, none⟩ = some u := fun j u h => by
    rw [World.cell?_alloc_at _ _ _ _ rfl]
    exact h
  exact ⟨key 0 _ rfl, key 1 _ rfl, key 2 _ rfl, key 3 _ rfl, key 4 _ rfl, key 5 _ rfl, key 6 _ rfl, key 7 _ rfl, key 8 _ rfl, key 9 _ rfl, key 10 _ rfl, key 11 _ rfl⟩
theorem all_take_snoc {α : Type} (f : α → Bool) (l : List α) (k : Nat) (x : α) (h : l[k]? = some x) (ha : (l.take k).all f = true) : (l.take (k + 1)).all f = f x := by
  rw [List.take_add_one, h, List.all_append, ha]
  simp
theorem all_of_not {α : Type} (f : α → Bool) (l : List α) (k : Nat) (h : (l.take k).all f = false) : l.all f = false := by
  cases e : l.all f with
  | false => rfl
  | true =>
    rw [List.all_eq_true] at e
    rw [List.all_eq_false] at h
    obtain ⟨x, hx, hn⟩ := h
    exact absurd (e x (List.mem_of_mem_take hx)) hn

set_option maxRecDepth 100000 in
set_option maxHeartbeats 8000000 in
theorem ruMay_any (p : PatD) (v : Value) (ls : List LitD) (hp : VastP p) (hl : ∀ l ∈ ls, VastL l) (m : Int) (w : World) (hm : HasMax w m) (hv : BodyS w v ls) :
    Calls Tryz.prog 23 #[.agg (ruleC p v)] w fun e w' => e = .returned (.bool (ruleB (p, ls))) ∧ Below w.heap.size w w' := by
  obtain ⟨ptr, cap, rfl, hcap, hrow⟩ := hv.form
  have HB := Lib.hid (below_new w (.cells (ruleC p (.slice ptr ls.length cap)) 46))
  have HPn := Lib.hid (PatAt.new w p (.slice ptr ls.length cap) 46)
  have Hm := Lib.hid hm
  have HRow : Hid (∀ W, Below w.heap.size w W → 0 < ls.length → ∃ g o, ptr = some ⟨g, o, none⟩ ∧ RowL W g o ls) := Lib.hid (fun W k h => by
    obtain ⟨g, o, e, r⟩ := hrow h
    exact ⟨g, o, e, r.below k⟩)
  have HP := Lib.hid (fun W (h : HasMax W m) => ruPat_any p hp m W h)
  have HL := Lib.hid (fun l (h : l ∈ ls) W (hW : HasMax W m) => ruPart_any l (hl l h) m W hW)
  have HR : Hid (ruleB (p, ls) = (decide (ls.length ≤ 64) && (ls.all litB && patB p))) := Lib.hid rfl
  have HLs : Hid (∀ k x, ls[k]? = some x → x ∈ ls) := Lib.hid (fun k x h => List.mem_of_getElem? h)
  have HEx : Hid (∀ k, k < ls.length → ∃ x, ls[k]? = some x) := Lib.hid (fun k h => ⟨_, List.getElem?_eq_getElem h⟩)
  have HAll : Hid (ls.take ls.length = ls) := Lib.hid (List.take_length)
  obtain ⟨n, hn⟩ : ∃ n, n = ls.length := ⟨_, rfl⟩
  rw [← hn] at HB HPn HRow HR HEx HAll hcap ⊢
  clear hrow hm hv hp hl hn
  obtain ⟨R, hR⟩ : ∃ R, R = ruleB (p, ls) := ⟨_, rfl⟩
  rw [← hR] at HR ⊢
  clear hR
  by_cases h64 : n ≤ 64
  · have d1 : decide ((64 : Int) < (n : Int)) = false := by simp; omega
    rw [decide_eq_true h64, Bool.true_and] at HR
    go_enter Tryz.func23, Tryz.ntmps23
    go_wp2
    go_loopg [12] n (fun gg i wr => ∃ k : Nat, k ≤ n ∧ n - k ≤ gg ∧ i = .int .i64 k ∧ (ls.take k).all litB = true ∧ Below w.heap.size w wr ∧ PatAt wr w.heap.size p ∧ w.heap.size < wr.heap.size)
    case atStart => exact ⟨0, Nat.zero_le _, by omega, rfl, rfl, HB.out, HPn.out, by simp⟩
    case round =>
      obtain ⟨k, hk, hgg, rfl, hall, hBr, hPr, hsz⟩ := hrel
      have HBr := Lib.hid hBr
      have HPr := Lib.hid hPr
      have HAl := Lib.hid hall
      have Hmr := Lib.hid (cell_below hBr Hm.out)
      clear hBr hPr hall
      by_cases hlt : k < n
      · obtain ⟨x, hx⟩ := HEx.out k hlt
        obtain ⟨g, o, rfl, hr⟩ := HRow.out wr HBr.out (by omega)
        have hC := hr.range hx
        have HLx := Lib.hid (fun W (h : HasMax W m) => HL.out x (HLs.out k x hx) W h)
        have HTk := Lib.hid (all_take_snoc litB ls k x hx HAl.out)
        have HN := Lib.hid (all_of_not litB ls (k + 1))
        have hone := litC_one x
        have hlen : (litC x).toList.length = 21 := rfl
        have harr : litC x = (litC x).toList.toArray := rfl
        rw [harr] at HLx
        clear harr
        generalize (litC x).toList = C at *
        have HSt := Lib.hid (fun Z hz => stored_lit wr Z hz C hlen 43)
        have hsz21 : (Tryz.prog.info? 43).map (·.size) = some C.length := by rw [hlen]; kernel_rfl
        have hsz21' : (Tryz.prog.info? 43).map (·.size) = some C.toArray.size := by rw [List.size_toArray, hlen]; kernel_rfl
        have hth' : (wr.alloc (.cells (litC zLi) 43)).there wr.heap.size 0 C.toArray.size := by
          have := (HSt.out (litC zLi) rfl).1
          rwa [← hlen, ← List.size_toArray] at this
        have HC := Lib.hid hC
        have HO := Lib.hid hone
        have HS := Lib.hid hsz21
        have HS' := Lib.hid hsz21'
        have HT := Lib.hid hth'
        clear hx hr hC hone hsz21 hsz21' hth' hlen
        go_upto_region 6 with (first
          | (refine wpList_load_mid rfl 43 (.tmp 14) rfl g (o + k * 21) rfl C _ HC.out Tryz.underlying43 rfl HS.out ?_)
          | (refine wpList_store_mid rfl 43 (.tmp 4) (.tmp 15) rfl wr.heap.size 0 C.toArray rfl rfl HT.out HS'.out HO.out ?_))
        generalize hW : World.setCells (World.alloc wr (Obj.cells _ _)) _ _ _ = W2
        have hf : Stored wr W2 C := by rw [← hW]; exact (HSt.out _ rfl).2
        obtain ⟨hr2, hB2, hz2⟩ := hf
        have HR2 := Lib.hid hr2
        have HB2 := Lib.hid hB2
        have hzz : w.heap.size < W2.heap.size := by omega
        have Hm2 := Lib.hid (cell_below hB2 Hmr.out)
        clear hW hr2 hB2 HT HO HS' HC HSt hz2
        cases hx : litB x with
        | false =>
          rw [hx] at HLx HTk
          have HX : Hid (R = false) := Lib.hid (by rw [HR.out, HN.out HTk.out]; rfl)
          clear hx
          go_wp2_with (first
            | (refine wpList_load_mid rfl 43 (.tmp 4) rfl wr.heap.size 0 rfl C _ HR2.out Tryz.underlying43 rfl HS.out ?_)
            | (go_at_call 34; refine (HLx.out _ Hm2.out).mono ?_; rintro e w' ⟨rfl, hB⟩))
          go_ret
          exact ⟨ret_bool HX.out.symm, below_step (below_step HBr.out HB2.out) hB⟩
        | true =>
          rw [hx] at HLx HTk
          clear hx
          go_wp2_with (first
            | (refine wpList_load_mid rfl 43 (.tmp 4) rfl wr.heap.size 0 rfl C _ HR2.out Tryz.underlying43 rfl HS.out ?_)
            | (go_at_call 34; refine (HLx.out _ Hm2.out).mono ?_; rintro e w' ⟨rfl, hB⟩))
          go_roundg (n - (k + 1))
          case rel => exact ⟨k + 1, by omega, Nat.le_refl _, by go_num, HTk.out, below_step (below_step HBr.out HB2.out) hB, (HPr.out.below HB2.out).below hB, by have := hB.size; omega⟩
          case measure => omega
      · obtain rfl : k = n := by omega
        have HX : Hid (R = patB p) := Lib.hid (by rw [HR.out, ← HAll.out, HAl.out]; rfl)
        obtain ⟨q0, q1, q2, q3, q4, q5, q6, q7, q8, q9, q10, q11⟩ := HPr.out
        go_wp2_with (go_at_call 35; refine (HP.out _ Hmr.out).mono ?_; rintro e w' ⟨rfl, hB⟩)
        go_ret
        exact ⟨ret_bool HX.out.symm, below_step HBr.out hB⟩
  · have d1 : decide ((64 : Int) < (n : Int)) = true := by simp; omega
    rw [decide_eq_false h64, Bool.false_and] at HR
    go_enter Tryz.func23, Tryz.ntmps23
    go_wp2
    go_ret
    exact ⟨ret_bool HR.out.symm, HB.out⟩
end Go.Proofs.YtlkiigoblkfkpaaGreatDoor

/-
  RULES IN MEMORY: sizes that a machine holds, a slice's form, a rule's own cells.
-/

namespace Go.Proofs.YtlkiigoblkfkpaaGreatDoor
open Go.RowKit
open Utf Term
set_option linter.unusedVariables false
set_option linter.unusedSimpArgs false

def VastR (r : RuleD) : Prop := VastP r.1 ∧ ∀ l ∈ r.2, VastL l
theorem SliceRu.form {W : World} {v : Value} {rs : List RuleD} (h : SliceRu W v rs) : ∃ p cap, v = .slice p rs.length cap ∧ rs.length ≤ cap ∧ (0 < rs.length → ∃ g o, p = some ⟨g, o, none⟩ ∧ RowRu W g o rs) := by
  rcases h with ⟨rfl, rfl⟩ | ⟨g, o, cap, rfl, h2, h3, h4⟩
  · exact ⟨none, 0, rfl, Nat.le_refl _, fun h => absurd h (by simp)⟩
  · exact ⟨_, cap, rfl, h2, fun _ => ⟨g, o, rfl, h4⟩⟩
end Go.Proofs.YtlkiigoblkfkpaaGreatDoor

/-
  THE CONTRACT OF THE REFERENCE'S Same OF RULES.
-/

namespace Go.Proofs.YtlkiigoblkfkpaaGreatDoor
open Go.RowKit
open Utf Term
set_option linter.unusedVariables false
set_option linter.unusedSimpArgs false

theorem range_drew {W : World} {g o : Nat} {C : List Value} (h : W.rangeAt g o C) (n : Nat) : (W.drewN n).rangeAt g o C := h
theorem quiet_load_mid {P : Program} {C : World → Prop} {o : Oper} {a : Act} {K : Act → Prop} (ty : TypeId) (x : Operand) (ho : o.op = .load ty x) (b off : Nat) (hx : a.eval x = .pointer (some ⟨b, off, none⟩)) (cs : List Value) (d : TypeDesc) (hc : ∀ w, C w → w.rangeAt b off cs)
    (hu : P.underlying ty = some d) (hd : d.isRow = true) (hi : (P.info? ty).map (·.size) = some cs.length) (hk : K (a.put o.dst (.agg cs.toArray))) : o.quiet P a C K :=
  ⟨_, fun w hw => by
    unfold Oper.quietAt execOp
    simp only [ho, hx, Sem.run_bind, Sem.run_pure, Result.andThen_ok, run_loadAt_mid w b off ty cs d (hc w hw) hu hd hi]
    exact ⟨rfl, rfl⟩, hk⟩
theorem lex_drewR (B : Nat) (w : World) (n : Nat) : Below B w (w.drewN n) := ⟨rfl, rfl, rfl, Nat.le_refl _, fun _ _ => rfl⟩
theorem BodyS.small {W : World} {v : Value} {ls : List LitD} (h : BodyS W v ls) : ls.length ≤ 9223372036854775807 := by
  rcases h with ⟨_, rfl⟩ | ⟨g, o, cap, _, h2, h3, _⟩
  · exact Nat.zero_le _
  · unfold maxLen at h3; omega
theorem list_same (xs ys : List LitD) (hl : xs.length = ys.length) (h : ∀ i, i < xs.length → xs[i]? = ys[i]?) : xs = ys := by
  apply List.ext_getElem?
  intro i
  by_cases hi : i < xs.length
  · exact h i hi
  · rw [List.getElem?_eq_none (by omega), List.getElem?_eq_none (by omega)]

end Go.Proofs.YtlkiigoblkfkpaaGreatDoor

