/-
  WHAT THE PROOF STANDS ON, a part of it: RuRefRText, RuRefTexts, RuLen.
-/
import Derived.Test.YtcikjgeanjnffaaGreatDoorA37
import Derived.Test.YtcikjgeanjnffaaGreatDoorA38
import Derived.Test.YtcikjgeanjnffaaGreatDoorA31
/-
  CONTRACT OF THE REFERENCE's Text OF A RULE.
-/

namespace Go.Proofs.YtcikjgeanjnffaaGreatDoor
open Go.RowKit
open Utf Term
set_option linter.unusedVariables false
set_option linter.unusedSimpArgs false

theorem tailL_snoc : ∀ (m : List LitD) (x : LitD), tailL (m ++ [x]) = tailL m ++ 44 :: 32 :: litL x
  | [], x => by simp [tailL]
  | l :: m, x => by
    rw [List.cons_append, tailL, tailL_snoc m x, tailL]
    simp
theorem bodyL_snoc {m : List LitD} (h : m ≠ []) (x : LitD) : bodyL (m ++ [x]) = bodyL m ++ 44 :: 32 :: litL x := by
  cases m with
  | nil => exact absurd rfl h
  | cons l m => rw [List.cons_append, bodyL, tailL_snoc, bodyL, List.append_assoc]
/-- A rule's text, up to its first parts. -/
def headT (p : PatD) (ls : List LitD) (k : Nat) : List Int := patL p ++ (if k = 0 then [] else [32, 58, 45, 32] ++ bodyL (ls.take k))
theorem headT_zero (p : PatD) (ls : List LitD) : headT p ls 0 = patL p := by simp [headT]
theorem headT_one {p : PatD} {ls : List LitD} {x : LitD} (h : ls[0]? = some x) : headT p ls 1 = headT p ls 0 ++ [32, 58, 45, 32] ++ litL x := by
  unfold headT
  rw [if_neg (by decide), if_pos rfl]
  cases ls with
  | nil => cases h
  | cons y ls =>
    simp only [List.getElem?_cons_zero, Option.some.injEq] at h
    subst h
    simp [bodyL, tailL]
theorem headT_succ {p : PatD} {ls : List LitD} {k : Nat} {x : LitD} (hk : k ≠ 0) (h : ls[k]? = some x) : headT p ls (k + 1) = headT p ls k ++ [44, 32] ++ litL x := by
  unfold headT
  rw [if_neg (by omega), if_neg hk, List.take_add_one, h]
  have hne : ls.take k ≠ [] := by
    intro e
    have := (List.getElem?_eq_some_iff.1 h).1
    have hl := congrArg List.length e
    rw [List.length_take, List.length_nil] at hl
    omega
  rw [show (some x).toList = [x] from rfl, bodyL_snoc hne]
  simp
theorem headT_all (p : PatD) (ls : List LitD) : ruleL (p, ls) = headT p ls ls.length ++ [32, 46] := by
  unfold ruleL headT
  cases ls with
  | nil => simp
  | cons l ls =>
    rw [if_neg (by simp), if_neg (by simp), List.take_length]
    simp
theorem headT_byte (p : PatD) (ls : List LitD) (k : Nat) : AllB (headT p ls k) := by
  unfold headT
  refine .app (patL_byte _) ?_
  split
  · exact .nil
  · exact .app (.cons (by decide) (.cons (by decide) (.cons (by decide) (.cons (by decide) .nil)))) (bodyL_byte _)
theorem headT_len {p : PatD} {ls : List LitD} (h : ruleB (p, ls) = true) (k : Nat) : (headT p ls k).length ≤ 5000000 := by
  obtain ⟨h1, h2, h3⟩ := rule_parts h
  have hp := patL_len h3
  have hb := bodyL_len (ls.take k) (fun l hl => h2 l (List.mem_of_mem_take hl))
  have ht : (ls.take k).length ≤ 64 := by
    rw [List.length_take]
    have : ls.length ≤ 64 := h1
    omega
  unfold headT
  split
  · simp; omega
  · simp only [List.length_append, List.length_cons, List.length_nil]
    omega

set_option maxRecDepth 100000 in
set_option maxHeartbeats 8000000 in
theorem refRText_any (p : PatD) (v : Value) (ls : List LitD) (h : ruleB (p, ls) = true) (m : Int) (w : World) (hm : HasMax w m) (hv : BodyS w v ls) :
    Calls Tryz.prog 23 #[.agg (ruleC p v)] w fun e w' => e = .returned (.string (strOfNums (ruleL (p, ls)))) ∧ Below w.heap.size w w' := by
  obtain ⟨ptr, cap, rfl, hcap, hrow⟩ := hv.form
  obtain ⟨h1, h2, h3⟩ := rule_parts h
  have hg := h3
  unfold patB at hg
  simp only [Bool.and_eq_true] at hg
  have HM : Hid (∀ W, HasMax W m → Calls Tryz.prog 56 #[.agg (patC p)] W fun e w' => e = .returned (.string (strOfNums (headT p ls 0))) ∧ Below W.heap.size W w') := Lib.hid (fun W hW => by
    rw [headT_zero]
    exact refPatText_any p.1.1 p.1.2.1 p.1.2.2.1 p.1.2.2.2 p.2.1.1 p.2.1.2.1 p.2.1.2.2.1 p.2.1.2.2.2 p.2.2.1 p.2.2.2.1 p.2.2.2.2.1 p.2.2.2.2.2 hg.1.1 hg.1.2 hg.2 m W hW)
  have HB := Lib.hid (below_new w (.cells (ruleC p (.slice ptr ls.length cap)) 31))
  have HBk := Lib.hid (heap_alloc_new w (.cells (ruleC p (.slice ptr ls.length cap)) 31))
  have Hm := Lib.hid (cell_below HB.out hm)
  have HH := Lib.hid (range_head HBk.out)
  have HS12 := Lib.hid (show (Tryz.prog.info? 28).map (·.size) = some 12 by kernel_rfl)
  have HRow : Hid (∀ W, Below w.heap.size w W → 0 < ls.length → ∃ g o, ptr = some ⟨g, o, none⟩ ∧ RowL W g o ls) := Lib.hid (fun W k h => by
    obtain ⟨g, o, e, r⟩ := hrow h
    exact ⟨g, o, e, r.below k⟩)
  have HL := Lib.hid (fun l (h : l ∈ ls) W (hW : HasMax W m) => refPartText_any l (h2 l h) m W hW)
  have HLn := Lib.hid (fun l (h : l ∈ ls) => litL_len (h2 l h))
  have HTn := Lib.hid (fun k => headT_len h k)
  have HLs : Hid (∀ k x, ls[k]? = some x → x ∈ ls) := Lib.hid (fun k x h => List.mem_of_getElem? h)
  have HEx : Hid (∀ k, k < ls.length → ∃ x, ls[k]? = some x) := Lib.hid (fun k h => ⟨_, List.getElem?_eq_getElem h⟩)
  have HAll := Lib.hid (headT_all p ls)
  have hn64 : ls.length ≤ 64 := h1
  obtain ⟨n, hn⟩ : ∃ n, n = ls.length := ⟨_, rfl⟩
  rw [← hn] at HB HBk HRow HEx HAll hcap Hm HH hn64 ⊢
  clear hrow hm hv hn h h1 h2 h3 hg
  obtain ⟨R, hR⟩ : ∃ R, R = strOfNums (ruleL (p, ls)) := ⟨_, rfl⟩
  rw [← hR]
  have HR := Lib.hid hR
  clear hR
  go_enter Tryz.func23, Tryz.ntmps23
  go_wp2_with (first
    | (refine wpList_load_mid rfl 28 (.tmp 5) rfl w.heap.size 0 rfl (patC p).toList _ HH.out Tryz.underlying28 rfl HS12.out ?_)
    | (go_at_call 56; refine (HM.out _ Hm.out).mono ?_; rintro e w1 ⟨rfl, hB1⟩))
  have HB1 := Lib.hid (below_step HB.out hB1)
  have HK1 : Hid (w1.heap[w.heap.size]? = some (.cells (ruleC p (.slice ptr n cap)) 31 (0, 0))) := Lib.hid (by
    rw [hB1.block w.heap.size (by simp)]
    exact HBk.out)
  have Hm1 := Lib.hid (cell_below hB1 Hm.out)
  clear hB1 HM HB HBk HH
  go_loopg [3, 4] n (fun gg s i wr => ∃ k : Nat, k ≤ n ∧ n - k ≤ gg ∧ i = .int .i64 k ∧ s = .string (strOfNums (headT p ls k)) ∧ Below w.heap.size w wr ∧ wr.heap[w.heap.size]? = some (.cells (ruleC p (.slice ptr n cap)) 31 (0, 0)) ∧ HasMax wr m)
  case atStart => exact ⟨0, Nat.zero_le _, by omega, rfl, rfl, HB1.out, HK1.out, Hm1.out⟩
  case round =>
    obtain ⟨k, hk, hgg, rfl, rfl, hBr, hbk, hmr⟩ := hrel
    have HBr := Lib.hid hBr
    have HK := Lib.hid hbk
    have Hmr := Lib.hid hmr
    have hc12 : wr.cell? ⟨w.heap.size, 12, none⟩ = some (.slice ptr n cap) := by unfold World.cell?; rw [hbk]; rfl
    have hz := HTn.out k
    rw [← strOfNums_size] at hz
    clear hBr hbk hmr HB1 HK1 Hm1
    by_cases hlt : k < n
    · obtain ⟨x, hx⟩ := HEx.out k hlt
      obtain ⟨g, o, rfl, hr⟩ := HRow.out wr HBr.out (by omega)
      have HC := Lib.hid (hr.range hx)
      have HLx := Lib.hid (fun W hW => HL.out x (HLs.out k x hx) W hW)
      have hzx := HLn.out x (HLs.out k x hx)
      have HS := Lib.hid (show (Tryz.prog.info? 34).map (·.size) = some (litC x).toList.length by kernel_rfl)
      have harr : litC x = (litC x).toList.toArray := rfl
      rw [harr] at HLx
      have hzt : (litT x).size ≤ 75500 := by unfold litT; rw [strOfNums_size]; exact hzx
      have hxb : bs (litT x) = litL x := bs_strOfNums (litL_byte x)
      have hhb : bs (strOfNums (headT p ls k)) = headT p ls k := bs_strOfNums (headT_byte p ls k)
      have i0 : (0 : Int) ≤ (k : Int) := by omega
      have i1 : (k : Int) < (n : Int) := by omega
      have HX0 : Hid (k = 0 → strOfNums (headT p ls (k + 1)) = strOfNums (headT p ls k) ++ ⟨#[32, 58, 45, 32]⟩ ++ litT x) := Lib.hid (fun h0 => by
        refine (strOf_eq ?_).symm
        subst h0
        rw [headT_one hx, bs_app, bs_app, hxb, hhb]
        rfl)
      have HX1 : Hid (k ≠ 0 → strOfNums (headT p ls (k + 1)) = strOfNums (headT p ls k) ++ ⟨#[44, 32]⟩ ++ litT x) := Lib.hid (fun h0 => by
        refine (strOf_eq ?_).symm
        rw [headT_succ h0 hx, bs_app, bs_app, hxb, hhb]
        rfl)
      clear harr hx hr hzx hxb hhb
      generalize (litC x).toList = C at *
      generalize litT x = X at *
      generalize hT2 : strOfNums (headT p ls (k + 1)) = T1 at *
      generalize hT : strOfNums (headT p ls k) = T at *
      clear hT
      have f0 : ¬ 9223372036854775807 < T.size + 4 := by omega
      have f1 : ¬ 9223372036854775807 < T.size + 4 + X.size := by omega
      have f2 : ¬ 9223372036854775807 < T.size + 2 := by omega
      have f3 : ¬ 9223372036854775807 < T.size + 2 + X.size := by omega
      by_cases h0 : k = 0
      · have hT1 := HX0.out h0
        have e0 : ((k : Int) == 0) = true := by simp [h0]
        clear h0
        go_wp2_with (first
          | (refine wpList_load_mid rfl 34 (.tmp 25) rfl g (o + k * 21) rfl C _ HC.out Tryz.underlying34 rfl HS.out ?_)
          | (go_at_call 22; refine (HLx.out _ Hmr.out).mono ?_; rintro e w' ⟨rfl, hB⟩))
        go_roundg (n - (k + 1))
        case rel =>
          refine ⟨k + 1, by omega, Nat.le_refl _, by go_num, by rw [hT2, hT1], below_step HBr.out hB, ?_, cell_below hB Hmr.out⟩
          rw [hB.block w.heap.size (Array.getElem?_eq_some_iff.1 HK.out).1]
          exact HK.out
        case measure => omega
      · have hT1 := HX1.out h0
        have e0 : ((k : Int) == 0) = false := by simp; omega
        clear h0
        go_wp2_with (first
          | (refine wpList_load_mid rfl 34 (.tmp 25) rfl g (o + k * 21) rfl C _ HC.out Tryz.underlying34 rfl HS.out ?_)
          | (go_at_call 22; refine (HLx.out _ Hmr.out).mono ?_; rintro e w' ⟨rfl, hB⟩))
        go_roundg (n - (k + 1))
        case rel =>
          refine ⟨k + 1, by omega, Nat.le_refl _, by go_num, by rw [hT2, hT1], below_step HBr.out hB, ?_, cell_below hB Hmr.out⟩
          rw [hB.block w.heap.size (Array.getElem?_eq_some_iff.1 HK.out).1]
          exact HK.out
        case measure => omega
    · obtain rfl : k = n := by omega
      have hRv : R = strOfNums (headT p ls k) ++ ⟨#[32, 46]⟩ := by
        rw [HR.out, HAll.out]
        refine (strOf_eq ?_).symm
        rw [bs_app, bs_strOfNums (headT_byte p ls k)]
        rfl
      have HRv := Lib.hid hRv
      generalize strOfNums (headT p ls k) = T at *
      have f2 : ¬ 9223372036854775807 < T.size + 2 := by omega
      clear hRv
      go_wp2_with fail
      go_ret
      exact ⟨ret_str HRv.out.symm, HBr.out⟩
end Go.Proofs.YtcikjgeanjnffaaGreatDoor

/-
  CONTRACT OF THE REFERENCE's Texts. (Written by tools/genrureftexts.py: its end out of XNtRefText.)
-/

namespace Go.Proofs.YtcikjgeanjnffaaGreatDoor
open Go.RowKit
open Utf Term
set_option linter.unusedVariables false
set_option linter.unusedSimpArgs false

theorem cells_numsR {l : List Int} (h : AllB l) : Lib.strCells (strOfNums l) = l.map (Value.int .u8) := by
  rw [cells_u8s]
  unfold Lib.byteCells u8s
  rw [List.map_map]
  apply List.map_congr_left
  intro c hc
  obtain ⟨h0, h1⟩ := h c hc
  simp only [Function.comp]
  congr 1
  rw [UInt8.toNat_ofNat']
  omega
def SmallR (r : RuleD) : Prop := SmallP r.1 ∧ ∀ l ∈ r.2, SmallL l
theorem own_keepR {w w' : World} {base : Nat} {e : TypeId} {k n : Nat} {v : Value} {xs : List Value} (h : w.ownsRow base e k v n xs) (hB : Below w.heap.size w w') : w'.ownsRow base e k v n xs := by
  refine ⟨h.1, ?_⟩
  rcases h.2 with hn | ⟨g, cap, cur, hv, hb, hg, rest⟩
  · exact .inl hn
  · exact .inr ⟨g, cap, cur, hv, hb, by rw [hB.block g (Array.getElem?_eq_some_iff.1 hg).1]; exact hg, rest⟩
theorem rulesL_len : ∀ {rs : List RuleD}, rs.all ruleB = true → (rulesL rs).length ≤ 5000001 * rs.length
  | [], _ => by simp [rulesL]
  | r :: rs, h => by
    rw [List.all_cons, Bool.and_eq_true] at h
    have h1 := rulesL_len h.2
    have h2 := ruleL_len (p := r.1) (ls := r.2) h.1
    have e : rulesL (r :: rs) = (ruleL (r.1, r.2) ++ [10]) ++ rulesL rs := rfl
    rw [e]
    simp only [List.length_append, List.length_cons, List.length_nil]
    omega

set_option maxRecDepth 100000 in
set_option maxHeartbeats 8000000 in
theorem refRuTexts_any (v : Value) (rs : List RuleD) (hn : rs.length ≤ 1000) (hf : ∀ r ∈ rs, SmallR r) (m : Int) (w : World) (hm : HasMax w m) (hv : SliceRu w v rs) :
    Calls Tryz.prog 33 #[v] w fun e w' => e = .returned (.tuple #[.string (rtextsR rs).1, .int .i64 (rtextsR rs).2]) ∧ Below w.heap.size w w' := by
  obtain ⟨i0, hi, hz0, hz1, hz2⟩ := info_parts info_byte
  obtain ⟨ptr, cap, rfl, hcap, hp⟩ := hv.form
  have HP : Hid (∀ W, Below w.heap.size w W → 0 < rs.length → ∃ g o, ptr = some ⟨g, o, none⟩ ∧ RowRu W g o rs) := Lib.hid (fun W k h => by
    obtain ⟨g, o, e, r⟩ := hp h
    exact ⟨g, o, e, r.below k⟩)
  have Hm := Lib.hid hm
  have HFt := Lib.hid hf
  obtain ⟨n, hnn⟩ : ∃ n, n = rs.length := ⟨_, rfl⟩
  have HN := Lib.hid hnn
  rw [← hnn] at HP hn hcap ⊢
  obtain ⟨R, hR⟩ : ∃ R, R = rtextsR rs := ⟨_, rfl⟩
  rw [← hR]
  have HR := Lib.hid hR
  clear hp hf hnn hv hR hm
  go_enter Tryz.func33, Tryz.ntmps33
  go_wp2_with fail
  go_loopg [4, 5] n (fun gg u i wr => ∃ (k : Nat) (vo : Value), vo = u ∧ k ≤ n ∧ n - k ≤ gg ∧ i = .int .i64 k ∧ (rs.take k).all ruleB = true ∧ Below w.heap.size w wr ∧ wr.ownsRow w.heap.size 5 1 vo (rulesL (rs.take k)).length ((rulesL (rs.take k)).map (Value.int .u8)))
  case atStart => exact ⟨0, _, rfl, Nat.zero_le _, by omega, rfl, by simp, Below.refl _ _, World.ownsRow_nil _ _ _ _⟩
  case round =>
    obtain ⟨k, vo, rfl, hk, hgg, rfl, hall, hB, ho⟩ := hrel
    have HAl := Lib.hid hall
    have HB := Lib.hid hB
    have HO := Lib.hid ho
    have hwb := hB.size
    clear hall hB ho
    by_cases hlt : k < n
    · have d1 : decide ((k : Int) < (n : Int)) = true := by simpa using hlt
      obtain ⟨x, hx⟩ : ∃ x, rs[k]? = some x := ⟨_, List.getElem?_eq_getElem (by have := HN.out; omega)⟩
      obtain ⟨g, o, rfl, hrow⟩ := HP.out wr HB.out (by omega)
      obtain ⟨vb, hra, hbd⟩ := hrow k x hx
      have hC := hra.range
      have i0' : (0 : Int) ≤ (k : Int) := by omega
      have i1' : (k : Int) < (n : Int) := by omega
      have hfx := HFt.out x (List.mem_of_getElem? hx)
      have HM := refMayR_any x.1 vb x.2 hfx.1 hfx.2 wr hbd
      have HTx : Hid (ruleB (x.1, x.2) = true → ∀ W, Below wr.heap.size wr W → Calls Tryz.prog 23 #[.agg (ruleC x.1 vb)] W fun e w' => e = .returned (.string (strOfNums (ruleL (x.1, x.2)))) ∧ Below W.heap.size W w') := Lib.hid (fun h W hW => refRText_any x.1 vb x.2 h m W (cell_below (HB.out.trans (hW.mono HB.out.size)) Hm.out) (hbd.below hW))
      have HX := Lib.hid hx
      have hsz13 : (Tryz.prog.info? 31).map (·.size) = some (ruleC x.1 vb).toList.length := by kernel_rfl
      have harr : ruleC x.1 vb = (ruleC x.1 vb).toList.toArray := rfl
      rw [harr] at HM HTx
      clear hrow harr hra hbd
      generalize (ruleC x.1 vb).toList = C at *
      have HS13 := Lib.hid hsz13
      have HC := Lib.hid hC
      clear hsz13 hC hfx
      cases hadd : ruleB (x.1, x.2) with
      | false =>
        have HRx : Hid (R = (⟨#[]⟩, 2)) := Lib.hid (by
          rw [HR.out]
          unfold rtextsR
          rw [if_neg]
          intro h
          rw [List.all_eq_true] at h
          have := h x (List.mem_of_getElem? HX.out)
          rw [show x = (x.1, x.2) from rfl, hadd] at this
          cases this)
        rw [hadd] at HM
        have HM := Lib.hid HM
        clear hadd hx
        go_wp2_with (first
          | (refine wpList_load_mid rfl 31 (.tmp 14) rfl g (o + k * 13) rfl C _ HC.out Tryz.underlying31 rfl HS13.out ?_)
          | (go_at_call 17; refine HM.out.mono ?_; rintro e y ⟨rfl, hY⟩))
        go_ret2
        rw [HRx.out]
        exact ⟨rfl, HB.out.trans (hY.mono HB.out.size)⟩
      | true =>
        rw [hadd] at HM
        have HM := Lib.hid HM
        have HTT := Lib.hid (HTx.out hadd)
        have hln := ruleL_len hadd
        have HAl2 : Hid ((rs.take (k + 1)).all ruleB = true) := Lib.hid (by rw [take_snocR hx, List.all_append, HAl.out]; simp; exact hadd)
        have HNx := Lib.hid (show rulesL (rs.take (k + 1)) = rulesL (rs.take k) ++ (ruleL (x.1, x.2) ++ [10]) by rw [take_snocR hx, rulesL_snoc])
        have hlen := rulesL_len HAl.out
        rw [List.length_take] at hlen
        have hlen2 : (rulesL (rs.take k)).length ≤ 5100000000 := by omega
        have HCs := Lib.hid (cells_numsR (ruleL_byte (x.1, x.2)))
        have HSu := Lib.hid (strOfNums_size (ruleL (x.1, x.2)))
        clear hadd hx hlen HTx
        generalize ruleL (x.1, x.2) = TL at *
        have hsz : (strOfNums TL).size ≤ 5000000 := by have := HSu.out; omega
        go_upto_region 7 with (first
          | (refine wpList_load_mid rfl 31 (.tmp 14) rfl g (o + k * 13) rfl C _ HC.out Tryz.underlying31 rfl HS13.out ?_)
          | (go_at_call 17; refine HM.out.mono ?_; rintro e y ⟨rfl, hY⟩))
        have HCy := Lib.hid (range_below HC.out hY)
        have HTy := Lib.hid (HTT.out y hY)
        have HBy := Lib.hid (HB.out.trans (hY.mono HB.out.size))
        have HOy := Lib.hid (own_keepR HO.out hY)
        have hwy : w.heap.size ≤ y.heap.size := by have := hY.size; omega
        clear hY HM HO HB HTT
        go_wp2_with (first
          | (refine wpList_load_mid rfl 31 (.tmp 21) rfl g (o + k * 13) rfl C _ HCy.out Tryz.underlying31 rfl HS13.out ?_)
          | (at_builtin; refine wpList_append_own _ rfl _ _ 87 rfl w.heap.size 5 i0 (.int .u8 0) 1 1 Tryz.underlying87 hi hz0 hz1 hz2 rfl (by decide) _ _ _ rfl (hown1.alloc _) ⟨y2.heap.size, 0, none⟩ 1 1 [.int .u8 10] rfl rfl (cells_new y2 #[.int .u8 10] 5 [.int .u8 10] (fun j u h => by simpa using h)) (by intro u hu; simp at hu; rcases hu with rfl <;> rfl) (by unfold maxLen; omega) (by omega) (by simp; omega) ?_; intro v2 w2 hown2 hgrow2 _)
          | (at_builtin; refine Lib.wpList_append_own_string _ rfl _ _ 87 9 rfl w.heap.size 5 i0 Tryz.underlying87 Tryz.underlying9 hi hz0 hz1 hz2 _ _ _ rfl HOz (strOfNums TL) rfl (by unfold maxLen; omega) (by omega) hwz ?_; intro v1 y2 hown1 hgrow1 _; have hwy2 : w.heap.size ≤ y2.heap.size := by have := hgrow1.size; omega)
          | (go_at_call 23; refine HTy.out.mono ?_; rintro e z ⟨rfl, hZ⟩; have HOz := own_keepR HOy.out hZ; have HBz := HBy.out.trans (hZ.mono HBy.out.size); have hwz : w.heap.size ≤ z.heap.size := by have := hZ.size; omega))
        have hB2 : Below w.heap.size w w2 := ((HBz.grown hgrow1 hwz (fun q hq => (HOz.lt q hq).1)).alloc hwy2 _).grown hgrow2 (by simp; omega) (fun q hq => (hown1.lt q hq).1)
        have hfin : w2.ownsRow w.heap.size 5 1 v2 (rulesL (rs.take (k + 1))).length ((rulesL (rs.take (k + 1))).map (Value.int .u8)) := by
          have e1 : (rulesL (rs.take (k + 1))).length = (rulesL (rs.take k)).length + (strOfNums TL).size + 1 := by
            rw [HNx.out, List.length_append, List.length_append, HSu.out, List.length_singleton]
            omega
          have e2 : (rulesL (rs.take (k + 1))).map (Value.int .u8) = (rulesL (rs.take k)).map (Value.int .u8) ++ Lib.strCells (strOfNums TL) ++ [.int .u8 10] := by
            rw [HNx.out, List.map_append, List.map_append, HCs.out, List.append_assoc]
            rfl
          rw [e1, e2]
          exact hown2
        go_roundg (n - (k + 1))
        case measure => omega
        case rel => exact ⟨k + 1, _, rfl, by omega, Nat.le_refl _, by go_num, HAl2.out, hB2, hfin⟩
    · obtain rfl : k = n := by omega
      have d1 : decide ((k : Int) < (k : Int)) = false := by simp
      have et : rs.take k = rs := by rw [HN.out, List.take_length]
      rw [et] at HAl HO
      have hlen := rulesL_len HAl.out
      clear et
      by_cases hlong : 1048576 < (rulesL rs).length
      · have HRx : Hid (R = (⟨#[]⟩, 3)) := Lib.hid (by
          rw [HR.out]
          unfold rtextsR
          rw [if_pos HAl.out, if_pos hlong])
        obtain ⟨g, c, rfl, _⟩ := owns_some HO.out (by omega)
        have d3 : decide ((1048576 : Int) < ((rulesL rs).length : Int)) = true := by simp; omega
        generalize (rulesL rs).length = LN at *
        go_wp2_with fail
        go_ret2
        rw [HRx.out]
        exact ⟨rfl, HB.out⟩
      · have HRx : Hid (R = (strOfNums (rulesL rs), 0)) := Lib.hid (by
          rw [HR.out]
          unfold rtextsR
          rw [if_pos HAl.out, if_neg hlong])
        have d3 : decide ((1048576 : Int) < ((rulesL rs).length : Int)) = false := by simp; omega
        by_cases h0 : 0 < (rulesL rs).length
        · obtain ⟨g, c, rfl, hg, hgl, hx, hcell⟩ := owns_some HO.out h0
          have hconv := owns_string (cap := c) (w' := wr) hx hcell hgl (Below.refl _ _)
          have HCv := Lib.hid hconv
          clear hconv hcell hx hlong hlen
          generalize strOfNums (rulesL rs) = T at *
          generalize (rulesL rs).length = LN at *
          have hconv := HCv.out
          go_wp2_with fail
          go_ret2
          rw [HRx.out]
          exact ⟨rfl, HB.out⟩
        · have e0 : rulesL rs = [] := List.eq_nil_of_length_eq_zero (by omega)
          rw [e0] at HO HRx
          have e1 : rulesL ([] : List RuleD) = [] := rfl
          rcases owns_forms HO.out with ⟨rfl, _⟩ | ⟨g, c, rfl, _⟩
          · clear d3 hlong hlen
            have hconv := run_convert_bytes_nil (P := Tryz.prog) wr 87 5 Tryz.underlying87 Tryz.underlying5 0 0 9 Tryz.underlying9
            go_wp2_with fail
            go_ret2
            rw [HRx.out]
            exact ⟨rfl, HB.out⟩
          · clear d3 hlong hlen
            have hconv := run_convert_bytes_arg (P := Tryz.prog) wr 87 5 Tryz.underlying87 Tryz.underlying5 g 0 0 c [] rfl (fun i hi => by omega) 9 Tryz.underlying9
            go_wp2_with fail
            go_ret2
            rw [HRx.out]
            exact ⟨rfl, HB.out⟩
end Go.Proofs.YtcikjgeanjnffaaGreatDoor

/-
  PLAIN MATHEMATICS: how long the text of rules is that Much lets through.
-/

namespace Go.Proofs.YtcikjgeanjnffaaGreatDoor
open Go.RowKit
open Utf Term
set_option linter.unusedVariables false

def rawSl (s : SlotD) : Nat := s.1.size + s.2.2.1.size + s.2.2.2.size
def litSz (l : LitD) : Nat := sizeP l.2.1 + sizeP (l.2.2.1, l.2.2.2, zSl)
def litsSz (ls : List LitD) : Nat := (ls.map litSz).sum
def totR (r : RuleD) : Nat := sizeP r.1 + litsSz r.2
def totRs (rs : List RuleD) : Nat := (rs.map totR).sum
/-- What is gone through. -/
def Meek (rs : List RuleD) : Prop := totRs rs ≤ 30000 ∧ ∀ r ∈ rs, r.2.length ≤ 200
theorem litsSz_cons (l : LitD) (ls : List LitD) : litsSz (l :: ls) = litSz l + litsSz ls := by simp [litsSz]
theorem totRs_cons (r : RuleD) (rs : List RuleD) : totRs (r :: rs) = totR r + totRs rs := by simp [totRs]
theorem litsSz_snoc (ls : List LitD) (l : LitD) : litsSz (ls ++ [l]) = litsSz ls + litSz l := by simp [litsSz]
theorem totRs_snoc (rs : List RuleD) (r : RuleD) : totRs (rs ++ [r]) = totRs rs + totR r := by simp [totRs]
theorem litsSz_mem {l : LitD} : ∀ {ls : List LitD}, l ∈ ls → litSz l ≤ litsSz ls
  | [], h => by cases h
  | x :: ls, h => by
    rw [litsSz_cons]
    rcases List.mem_cons.1 h with rfl | h
    · omega
    · have := litsSz_mem h; omega
theorem totRs_mem {r : RuleD} : ∀ {rs : List RuleD}, r ∈ rs → totR r ≤ totRs rs
  | [], h => by cases h
  | x :: rs, h => by
    rw [totRs_cons]
    rcases List.mem_cons.1 h with rfl | h
    · omega
    · have := totRs_mem h; omega
theorem sizeSl_le (s : SlotD) : sizeSl s ≤ 90003 := by unfold sizeSl; omega
theorem sizeP_le (p : PatD) : sizeP p ≤ 270010 := by
  have := sizeSl_le p.1
  have := sizeSl_le p.2.1
  have := sizeSl_le p.2.2
  unfold sizeP; omega
theorem litSz_le (l : LitD) : litSz l ≤ 540020 := by
  have := sizeP_le l.2.1
  have := sizeP_le (l.2.2.1, l.2.2.2, zSl)
  unfold litSz; omega
theorem raw_of {s : SlotD} (h : sizeSl s ≤ 30000) : rawSl s = sizeSl s := by unfold sizeSl rawSl at *; omega
theorem smallSl_of {s : SlotD} (h : sizeSl s ≤ 30000) : s.1.size ≤ 30000 ∧ s.2.2.1.size ≤ 30000 ∧ s.2.2.2.size ≤ 30000 := by unfold sizeSl at h; omega

theorem slotL_six (s : SlotD) : (slotL s).length ≤ 6 * rawSl s + 6 := by
  have h1 := quoteL_len (bs s.2.2.1)
  have e1 := bs_length s.2.2.1
  have e2 := bs_length s.2.2.2
  have e0 := bs_length s.1
  unfold slotL rawSl
  split
  · unfold textL
    repeat' split
    all_goals
      try simp only [List.length_cons, List.length_append, List.length_nil]
      omega
  · simp only [List.length_cons]
    omega
theorem patL_six {p : PatD} (h : sizeP p ≤ 30000) : (patL p).length ≤ 6 * sizeP p + 16 := by
  have h1 := slotL_six p.1
  have h2 := slotL_six p.2.1
  have h3 := slotL_six p.2.2
  have e1 := raw_of (s := p.1) (by unfold sizeP at h; omega)
  have e2 := raw_of (s := p.2.1) (by unfold sizeP at h; omega)
  have e3 := raw_of (s := p.2.2) (by unfold sizeP at h; omega)
  unfold patL sizeP at *
  simp only [List.length_cons, List.length_append, List.length_nil]
  omega
theorem litL_six {l : LitD} (h : litSz l ≤ 30000) : (litL l).length ≤ 6 * litSz l + 20 := by
  have hp := patL_six (p := l.2.1) (by unfold litSz at h; omega)
  have ha := slotL_six l.2.2.1
  have hb := slotL_six l.2.2.2
  have e1 := raw_of (s := l.2.2.1) (by unfold litSz sizeP at h; simp only at h; omega)
  have e2 := raw_of (s := l.2.2.2) (by unfold litSz sizeP at h; simp only at h; omega)
  have ec : (condL l.1).length ≤ 4 := by unfold condL; split <;> simp
  have e3 : sizeP (l.2.2.1, l.2.2.2, zSl) = 1 + sizeSl l.2.2.1 + sizeSl l.2.2.2 + sizeSl zSl := rfl
  have e4 : notL.length = 4 := rfl
  unfold litL
  unfold litSz at *
  split
  · omega
  · split
    · rw [List.length_append]; omega
    · rw [List.length_append, List.length_append]; omega
theorem tailL_six : ∀ {ls : List LitD}, litsSz ls ≤ 30000 → (tailL ls).length ≤ 6 * litsSz ls + 22 * ls.length
  | [], _ => by simp [tailL]
  | l :: ls, h => by
    rw [litsSz_cons] at *
    have h1 := litL_six (l := l) (by omega)
    have h2 := tailL_six (ls := ls) (by omega)
    rw [tailL]
    simp only [List.length_cons, List.length_append]
    omega
theorem bodyL_six {ls : List LitD} (h : litsSz ls ≤ 30000) : (bodyL ls).length ≤ 6 * litsSz ls + 22 * ls.length := by
  cases ls with
  | nil => simp [bodyL]
  | cons l ls =>
    rw [litsSz_cons] at *
    have h1 := litL_six (l := l) (by omega)
    have h2 := tailL_six (ls := ls) (by omega)
    rw [bodyL]
    simp only [List.length_cons, List.length_append]
    omega
theorem ruleL_six {r : RuleD} (h : totR r ≤ 30000) : (ruleL r).length ≤ 6 * totR r + 22 * r.2.length + 22 := by
  unfold totR at *
  have h1 := patL_six (p := r.1) (by omega)
  have h2 := bodyL_six (ls := r.2) (by omega)
  unfold ruleL
  simp only [List.length_cons, List.length_append, List.length_nil]
  split
  · simp only [List.length_nil]; omega
  · simp only [List.length_cons, List.length_append, List.length_nil]; omega
/-- Such rules' text is not too long. -/
theorem ruleL_fits {r : RuleD} (h : totR r ≤ 30000) (hn : r.2.length ≤ 200) : (ruleL r).length ≤ 1048576 := by
  have := ruleL_six h
  omega
theorem smallP_of {p : PatD} (h : sizeP p ≤ 30000) : SmallP p ∧ VastP p := by
  have h1 := smallSl_of (s := p.1) (by unfold sizeP at h; omega)
  have h2 := smallSl_of (s := p.2.1) (by unfold sizeP at h; omega)
  have h3 := smallSl_of (s := p.2.2) (by unfold sizeP at h; omega)
  unfold SmallP SmallSl VastP VastSl VastS
  omega
theorem smallL_of {l : LitD} (h : litSz l ≤ 30000) : SmallL l ∧ VastL l := by
  have hp := smallP_of (p := l.2.1) (by unfold litSz at h; omega)
  have h1 := smallSl_of (s := l.2.2.1) (by unfold litSz sizeP at h; simp only at h; omega)
  have h2 := smallSl_of (s := l.2.2.2) (by unfold litSz sizeP at h; simp only at h; omega)
  refine ⟨⟨hp.1, ?_, ?_⟩, hp.2, ?_, ?_⟩ <;> (first | unfold SmallSl | unfold VastSl VastS) <;> omega
theorem smallR_of {r : RuleD} (h : totR r ≤ 30000) : SmallR r ∧ VastR r := by
  unfold totR at h
  have hp := smallP_of (p := r.1) (by omega)
  exact ⟨⟨hp.1, fun l hl => (smallL_of (by have := litsSz_mem hl; omega)).1⟩, hp.2, fun l hl => (smallL_of (by have := litsSz_mem hl; omega)).2⟩
end Go.Proofs.YtcikjgeanjnffaaGreatDoor

