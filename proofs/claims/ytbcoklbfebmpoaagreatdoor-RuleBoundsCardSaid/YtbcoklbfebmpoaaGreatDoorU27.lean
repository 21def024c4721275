/-
  WHAT THE PROOF STANDS ON, a part of it: RuBody.
-/
import Derived.Test.YtbcoklbfebmpoaaGreatDoorU25
import Derived.Test.YtbcoklbfebmpoaaGreatDoorU21
import Derived.Laws.OwnMore
/-
  THE CONTRACT OF rules.bodyText.
-/

namespace Go.Proofs.YtbcoklbfebmpoaaGreatDoor
open Go.RowKit
open Utf Term
set_option linter.unusedVariables false
set_option linter.unusedSimpArgs false

/-- A part's text. -/
def litT (l : LitD) : ByteArray := strOfNums (litL l)
theorem patL_byte (p : PatD) : AllB (patL p) := by
  unfold patL
  exact .cons (by decide) (.app (slotL_byte _) (.cons (by decide) (.app (slotL_byte _) (.cons (by decide) (.app (slotL_byte _) (.cons (by decide) .nil))))))
theorem litL_byte (l : LitD) : AllB (litL l) := by
  unfold litL
  split
  · exact patL_byte _
  · split
    · exact .app (.cons (by decide) (.cons (by decide) (.cons (by decide) (.cons (by decide) .nil)))) (patL_byte _)
    · refine .app (slotL_byte _) (.app ?_ (slotL_byte _))
      unfold condL
      split
      · exact .cons (by decide) (.cons (by decide) (.cons (by decide) .nil))
      · exact .cons (by decide) (.cons (by decide) (.cons (by decide) (.cons (by decide) .nil)))
theorem tailL_byte : ∀ ls : List LitD, AllB (tailL ls)
  | [] => .nil
  | l :: ls => .cons (by decide) (.cons (by decide) (.app (litL_byte l) (tailL_byte ls)))
theorem bodyL_byte (ls : List LitD) : AllB (bodyL ls) := by
  cases ls with
  | nil => exact .nil
  | cons l ls => exact .app (litL_byte l) (tailL_byte ls)
theorem join_tail (x : ByteArray) : ∀ ls : List LitD, bs (accJ ⟨#[44, 32]⟩ x (ls.map litT)) = bs x ++ tailL ls
  | [] => by simp [accJ, tailL]
  | l :: ls => by
    show bs (accJ ⟨#[44, 32]⟩ (x ++ ⟨#[44, 32]⟩ ++ litT l) (ls.map litT)) = _
    rw [join_tail _ ls, bs_app, bs_app]
    have e : bs (litT l) = litL l := bs_strOfNums (litL_byte l)
    rw [e]
    show (bs x ++ [44, 32] ++ litL l) ++ tailL ls = bs x ++ (44 :: 32 :: (litL l ++ tailL ls))
    simp
theorem body_join (l : LitD) (ls : List LitD) : accJ ⟨#[44, 32]⟩ (litT l) (ls.map litT) = strOfNums (bodyL (l :: ls)) := by
  refine strOf_eq ?_
  rw [join_tail]
  have e : bs (litT l) = litL l := bs_strOfNums (litL_byte l)
  rw [e]
  rfl

theorem patL_len {p : PatD} (h : patB p = true) : (patL p).length ≤ 75400 := by
  unfold patB at h
  simp only [Bool.and_eq_true] at h
  have h1 := (slot_small h.1.1).2.2.2
  have h2 := (slot_small h.1.2).2.2.2
  have h3 := (slot_small h.2).2.2.2
  unfold patL
  simp only [List.length_cons, List.length_append, List.length_nil]
  omega
theorem litL_len {l : LitD} (h : litB l = true) : (litL l).length ≤ 75500 := by
  unfold litB at h
  unfold litL
  split at h
  · simp only [Bool.and_eq_true] at h
    have hp := patL_len h.1.1
    split
    · omega
    · split
      · rw [List.length_append]; show 4 + _ ≤ _; omega
      · rename_i h1 h2 h3; omega
  · split at h
    · simp only [Bool.and_eq_true] at h
      have h1 := (slot_small h.1.1).2.2.2
      have h2 := (slot_small h.1.2).2.2.2
      have hc : (condL l.1).length ≤ 4 := by unfold condL; split <;> simp
      split
      · rename_i a b; omega
      · split
        · rename_i a b; omega
        · rw [List.length_append, List.length_append]; omega
    · cases h
theorem litT_len {l : LitD} (h : litB l = true) : (litT l).size ≤ 75500 := by
  unfold litT
  rw [strOfNums_size]
  exact litL_len h

/-- What stands in the map for a part's kind. -/
theorem writers_call {W : World} {b c1 c2 c3 c4 : Nat} (h : Writers W b c1 c2 c3 c4) (l : LitD) (hl : litB l = true) :
    ∃ K c, (∀ U, Below W.heap.size W U → (Instr.lookup 123 (.map (some b)) (.int .i64 l.1) false).run Tryz.prog U = .ok (.func (.func K) #[] #[.pointer (some ⟨c, 0, none⟩)]) U) ∧
      (∀ args w, (callFunc K args).run Tryz.prog w = .ok (.enter K args) w) ∧
      ∀ m U, Below W.heap.size W U → HasMax U m → Calls Tryz.prog K #[.agg (litC l), .pointer (some ⟨c, 0, none⟩)] U fun e w' => e = .returned (.string (litT l)) ∧ Below U.heap.size U w' := by
  obtain ⟨k, ⟨⟨a0, a1, a2, a3⟩, ⟨b0, b1, b2, b3⟩, ⟨d0, d1, d2, d3⟩⟩, ⟨x0, x1, x2, x3⟩, ⟨y0, y1, y2, y3⟩⟩ := l
  have hl' := hl
  unfold litB at hl
  by_cases h12 : k = 1 ∨ k = 2
  · rw [if_pos h12] at hl
    simp only [Bool.and_eq_true] at hl
    have hp := hl.1.1
    unfold patB at hp
    simp only [Bool.and_eq_true] at hp
    rcases h12 with rfl | rfl
    · refine ⟨89, c1, fun U k => lookW_1 (h.below k).1, enters_of Tryz.func89 (by kernel_rfl) rfl, fun m U k hm => ?_⟩
      have e : litT (1, ((a0, a1, a2, a3), (b0, b1, b2, b3), (d0, d1, d2, d3)), (x0, x1, x2, x3), (y0, y1, y2, y3)) = ⟨#[]⟩ ++ patT a0 a1 a2 a3 b0 b1 b2 b3 d0 d1 d2 d3 := by
        rw [empty_app]; rfl
      rw [e]
      exact ruCloP_any c1 ⟨#[]⟩ (by decide) 1 _ _ _ _ _ _ _ _ _ _ _ _ _ _ _ _ _ _ _ _ hp.1.1 hp.1.2 hp.2 m U hm (h.below k).2.1.cell
    · refine ⟨89, c2, fun U k => lookW_2 (h.below k).1, enters_of Tryz.func89 (by kernel_rfl) rfl, fun m U k hm => ?_⟩
      have e : litT (2, ((a0, a1, a2, a3), (b0, b1, b2, b3), (d0, d1, d2, d3)), (x0, x1, x2, x3), (y0, y1, y2, y3)) = ⟨#[110, 111, 116, 32]⟩ ++ patT a0 a1 a2 a3 b0 b1 b2 b3 d0 d1 d2 d3 := by
        refine (strOf_eq ?_).symm
        rw [bs_app]
        unfold patT
        rw [bs_strOfNums (patL_byte _)]
        rfl
      rw [e]
      exact ruCloP_any c2 ⟨#[110, 111, 116, 32]⟩ (by decide) 2 _ _ _ _ _ _ _ _ _ _ _ _ _ _ _ _ _ _ _ _ hp.1.1 hp.1.2 hp.2 m U hm (h.below k).2.2.1.cell
  · rw [if_neg h12] at hl
    by_cases h34 : k = 3 ∨ k = 4
    · rw [if_pos h34] at hl
      simp only [Bool.and_eq_true] at hl
      rcases h34 with rfl | rfl
      · refine ⟨91, c3, fun U k => lookW_3 (h.below k).1, enters_of Tryz.func91 (by kernel_rfl) rfl, fun m U k hm => ?_⟩
        have e : litT (3, ((a0, a1, a2, a3), (b0, b1, b2, b3), (d0, d1, d2, d3)), (x0, x1, x2, x3), (y0, y1, y2, y3)) = condT ⟨#[61]⟩ x0 x1 x2 x3 y0 y1 y2 y3 := by
          refine (strOf_eq ?_).symm
          unfold condT slotT
          rw [bs_app, bs_app, bs_app, bs_app, bs_strOfNums (slotL_byte _), bs_strOfNums (slotL_byte _)]
          show _ ++ [32] ++ [61] ++ [32] ++ _ = slotL (x0, x1, x2, x3) ++ ([32, 61, 32] ++ slotL (y0, y1, y2, y3))
          simp
        rw [e]
        exact ruCloC_any c3 ⟨#[61]⟩ (by decide) 3 _ _ _ _ _ _ _ _ _ _ _ _ _ _ _ _ _ _ _ _ hl.1.1 hl.1.2 m U hm (h.below k).2.2.2.1.cell
      · refine ⟨91, c4, fun U k => lookW_4 (h.below k).1, enters_of Tryz.func91 (by kernel_rfl) rfl, fun m U k hm => ?_⟩
        have e : litT (4, ((a0, a1, a2, a3), (b0, b1, b2, b3), (d0, d1, d2, d3)), (x0, x1, x2, x3), (y0, y1, y2, y3)) = condT ⟨#[33, 61]⟩ x0 x1 x2 x3 y0 y1 y2 y3 := by
          refine (strOf_eq ?_).symm
          unfold condT slotT
          rw [bs_app, bs_app, bs_app, bs_app, bs_strOfNums (slotL_byte _), bs_strOfNums (slotL_byte _)]
          show _ ++ [32] ++ [33, 61] ++ [32] ++ _ = slotL (x0, x1, x2, x3) ++ ([32, 33, 61, 32] ++ slotL (y0, y1, y2, y3))
          simp
        rw [e]
        exact ruCloC_any c4 ⟨#[33, 61]⟩ (by decide) 4 _ _ _ _ _ _ _ _ _ _ _ _ _ _ _ _ _ _ _ _ hl.1.1 hl.1.2 m U hm (h.below k).2.2.2.2.cell
    · rw [if_neg h34] at hl
      cases hl

theorem sumN_map : ∀ (ls : List LitD), (∀ l ∈ ls, (litT l).size ≤ 75500) → sumN (ls.map litT) ≤ 75500 * ls.length
  | [], _ => by simp [sumN]
  | l :: ls, h => by
    have h1 := h l (by simp)
    have h2 := sumN_map ls (fun x hx => h x (by simp [hx]))
    rw [List.map_cons, sumN, List.length_cons]
    omega
theorem info_partsRu {e : TypeId} {z : Value} {s b : Nat} (h : (Tryz.prog.info? e).map (fun i => (i.zero, i.size, i.bytes)) = some (some z, s, b)) : ∃ i, Tryz.prog.info? e = some i ∧ i.zero = some z ∧ i.size = s ∧ i.bytes = b := by
  obtain ⟨i, h1, h2⟩ := Option.map_eq_some_iff.1 h
  simp only [Prod.mk.injEq] at h2
  exact ⟨i, h1, h2.1, h2.2.1, h2.2.2⟩
theorem info_str : (Tryz.prog.info? 9).map (fun i => (i.zero, i.size, i.bytes)) = some (some (.string ⟨#[]⟩), 1, 16) := by kernel_rfl
/-- A row of one's own is as it was. -/
theorem owns_under {w u : World} {base B : Nat} {e : TypeId} {size : Nat} {g n cap : Nat} {xs : List Value} (h : w.ownsRow base e size (.slice (some ⟨g, 0, none⟩) n cap) n xs) (k : Below B w u) (hg : g < B) : u.ownsRow base e size (.slice (some ⟨g, 0, none⟩) n cap) n xs := by
  refine ⟨h.1, ?_⟩
  rcases h.2 with ⟨h', _⟩ | ⟨g', cap', cur, h', h1, h2, h3⟩
  · cases h'
  · cases h'
    exact .inr ⟨g, cap, cur, rfl, h1, (k.block g hg).trans h2, h3⟩
/-- The first k strings are written. -/
def DoneK (T : Nat → ByteArray) (k : Nat) (xs : List Value) : Prop := ∀ j, j < k → xs[j]? = some (.string (T j))
theorem DoneK.next {T : Nat → ByteArray} {k n : Nat} {xs : List Value} (h : DoneK T k xs) (hl : xs.length = n) (hk : k < n) : DoneK T (k + 1) (xs.set k (.string (T k))) := fun j hj => by
  by_cases e : j = k
  · subst e
    rw [List.getElem?_set_self (by omega)]
  · rw [List.getElem?_set_ne (fun h => e h.symm)]
    exact h j (by omega)

set_option maxRecDepth 100000 in
set_option maxHeartbeats 8000000 in
theorem ruBody_any (g o cap : Nat) (l0 : LitD) (ls : List LitD) (hn : ls.length + 1 ≤ 64) (hcap : ls.length + 1 ≤ cap) (hok : ∀ l ∈ l0 :: ls, litB l = true) (m : Int) (w : World) (hm : HasMax w m) (hr : RowL w g o (l0 :: ls)) :
    Calls Tryz.prog 32 #[.slice (some ⟨g, o, none⟩) (ls.length + 1) cap] w fun e w' => e = .returned (.string (strOfNums (bodyL (l0 :: ls)))) ∧ Below w.heap.size w w' := by
  obtain ⟨i0, hi, hz0, hz1, hz2⟩ := info_partsRu info_str
  obtain ⟨N, hN⟩ : ∃ N, N = ls.length + 1 := ⟨_, rfl⟩
  obtain ⟨w1, hmk, hown, hgr⟩ := run_make_full (P := Tryz.prog) w w.heap.size 91 9 i0 (.string ⟨#[]⟩) 1 Tryz.underlying91 hi hz0 hz1 .i64 .i64 N (by rw [hz2]; omega) (by unfold maxLen; omega) (Nat.le_refl _)
  have hB1 : Below w.heap.size w w1 := (Below.refl _ _).grown hgr (Nat.le_refl _) (fun k e => by cases e)
  have HR : Hid (accJ ⟨#[44, 32]⟩ (litT l0) (ls.map litT) = strOfNums (bodyL (l0 :: ls))) := Lib.hid (body_join l0 ls)
  have hgb : 0 < N → g < w.heap.size := fun _ => World.block_lt_of_cell? _ _ ((hr.at_ (i := 0) (l := l0) rfl).1)
  have hg := hgb (by omega)
  have HO := Lib.hid (hown)
  have HB1 := Lib.hid hB1
  have HRow := Lib.hid (fun U (k : Below w.heap.size w U) => (hr.under k hg))
  have Hm := Lib.hid hm
  have HOk := Lib.hid hok
  have HNl := Lib.hid hN
  have htb : w.heap.size < w1.heap.size := by
    rcases hown.2 with ⟨h', _⟩ | ⟨g', cap', cur, h', _, h2, _⟩
    · cases h'
    · cases h'; exact (Array.getElem?_eq_some_iff.1 h2).1
  have hmkE : (Instr.makeSlice 91 (.int .i64 (N : Int)) (.int .i64 (N : Int))).run Tryz.prog w = .ok (.slice (some ⟨w.heap.size, 0, none⟩) N N) w1 := hmk
  rw [← hN] at hn hcap ⊢
  clear hr hm hok hown hgr hB1 hmk hN hi hz0 hz1 hz2 hgb
  generalize strOfNums (bodyL (l0 :: ls)) = R at *
  go_enter Tryz.func32, Tryz.ntmps32
  go_wp2_with (go_at_call 66; refine (ruWriters_any _).mono ?_; rintro e w2 ⟨b, c1, c2, c3, c4, rfl, hW, hB2, g0, g1, g2, g3, g4⟩)
  have HW := Lib.hid hW
  have HB2 := Lib.hid (HB1.out.trans (hB2.mono HB1.out.size))
  have HO2 := Lib.hid (owns_under HO.out hB2 htb)
  have hz2 : w.heap.size < w2.heap.size := by have := hB2.size; omega
  have HTl : Hid (∀ j l, (l0 :: ls)[j]? = some l → litT ((l0 :: ls).getD j zLi) = litT l) := Lib.hid (fun j l h => by rw [List.getD_eq_getElem?_getD, h]; rfl)
  have hxl : (madeCells (Value.string ⟨#[]⟩).cells (N * 1)).toList.length = N := by simp [madeCells]
  have HXl := Lib.hid hxl
  clear hW hB2 HO HB1 hmkE hxl
  go_loopg [13] N (fun gg i wr => ∃ (k : Nat) (xs : List Value), k ≤ N ∧ N - k ≤ gg ∧ i = .int .i64 k ∧ xs.length = N ∧ DoneK (fun j => litT ((l0 :: ls).getD j zLi)) k xs ∧ wr.ownsRow w.heap.size 9 1 (.slice (some ⟨w.heap.size, 0, none⟩) N N) N xs ∧ Below w.heap.size w wr ∧ Writers wr b c1 c2 c3 c4 ∧ w.heap.size < wr.heap.size)
  case atStart => exact ⟨0, _, Nat.zero_le _, by omega, rfl, HXl.out, (fun j hj => absurd hj (by omega)), HO2.out, HB2.out, HW.out, hz2⟩
  case round =>
    obtain ⟨k, xs, hk, hgg, rfl, hxl, hdone, hown, hBr, hWr, hsz⟩ := hrel
    have HOr := Lib.hid hown
    have HBr := Lib.hid hBr
    have HWr := Lib.hid hWr
    have HD := Lib.hid hdone
    have HXn := Lib.hid hxl
    have Hmr := Lib.hid (cell_below hBr Hm.out)
    clear hown hBr hWr hdone hxl HW HB2 HO2 HXl
    by_cases hlt : k < N
    · obtain ⟨x, hx⟩ : ∃ x, (l0 :: ls)[k]? = some x := ⟨_, List.getElem?_eq_getElem (by show k < ls.length + 1; rw [← HNl.out]; exact hlt)⟩
      have hok := HOk.out x (List.mem_of_getElem? hx)
      obtain ⟨K, c, hlook, hent, hcall⟩ := writers_call HWr.out x hok
      have hr := HRow.out wr HBr.out
      have hC := RowL.range hr hx
      have hTk := HTl.out k x hx
      have hone := litC_one x
      have hlen : (litC x).toList.length = 21 := rfl
      have hhead : (litC x).toList[0]? = some (.int .i64 x.1) := rfl
      have harr : litC x = (litC x).toList.toArray := rfl
      rw [harr] at hcall
      generalize hC2 : (litC x).toList = C at *
      have HSt := Lib.hid (fun Z hz => stored_lit wr Z hz C hlen 37)
      have hsz21 : (Tryz.prog.info? 37).map (·.size) = some C.length := by rw [hlen]; kernel_rfl
      have hsz21' : (Tryz.prog.info? 37).map (·.size) = some C.toArray.size := by rw [List.size_toArray, hlen]; kernel_rfl
      have hth' : (wr.alloc (.cells (litC zLi) 37)).there wr.heap.size 0 C.toArray.size := by
        have := (HSt.out (litC zLi) rfl).1
        rwa [← hlen, ← List.size_toArray] at this
      have HC := Lib.hid hC
      have HOn := Lib.hid hone
      have HS := Lib.hid hsz21
      have HS' := Lib.hid hsz21'
      have HT := Lib.hid hth'
      have HTk := Lib.hid hTk
      have HLk := Lib.hid hlook
      have HCa := Lib.hid hcall
      have HHd := Lib.hid hhead
      generalize litT x = TX at *
      generalize x.1 = kx at *
      clear hx hr hC hone hsz21 hsz21' hth' hlen hTk hlook hcall hhead hok harr hC2
      go_upto_region 6 with (first
        | (refine wpList_load_mid rfl 37 (.tmp 16) rfl g (o + k * 21) rfl C _ HC.out Tryz.underlying37 rfl HS.out ?_)
        | (refine wpList_store_mid rfl 37 (.tmp 6) (.tmp 17) rfl wr.heap.size 0 C.toArray rfl rfl HT.out HS'.out HOn.out ?_))
      generalize hW : World.setCells (World.alloc wr (Obj.cells _ _)) _ _ _ = W2
      have hf : Stored wr W2 C := by rw [← hW]; exact (HSt.out _ rfl).2
      obtain ⟨hr2, hB2, hz2'⟩ := hf
      have HR2 := Lib.hid hr2
      have HB2 := Lib.hid hB2
      have hzz : wr.heap.size < W2.heap.size := by omega
      have Hm2 := Lib.hid (cell_below hB2 Hmr.out)
      have hl2 := HLk.out W2 HB2.out
      have hk0 := hr2 0 _ HHd.out
      rw [Nat.zero_add] at hk0
      have HCl := Lib.hid (HCa.out m W2 HB2.out Hm2.out)
      clear hW hr2 hB2 HT HOn HS' HC HSt hz2' HLk HCa HHd
      go_wp2_with (first
        | (refine wpList_load_mid rfl 37 (.tmp 6) rfl wr.heap.size 0 rfl C _ HR2.out Tryz.underlying37 rfl HS.out ?_)
        | (go_at_fn K; refine HCl.out.mono ?_; rintro e w3 ⟨rfl, hB3⟩; have hO3 := Lib.hid (owns_under HOr.out (HB2.out.trans (hB3.mono HB2.out.size)) hsz); have hcx := hO3.out.cellAt k (by omega); rw [List.getElem?_eq_getElem (show k < xs.length by rw [HXn.out]; exact hlt)] at hcx; have hfx := hO3.out.frozenAt k))
      go_roundg (N - (k + 1))
      case rel =>
        have hst := hO3.out.stored k (.string TX)
        have hB4 : Below w.heap.size w w3 := (HBr.out.trans (HB2.out.mono HBr.out.size)).trans (hB3.mono (Nat.le_trans HBr.out.size HB2.out.size))
        refine ⟨k + 1, xs.set k (.string TX), by omega, Nat.le_refl _, by go_num, by rw [List.length_set]; exact HXn.out, ?_, hst.1, hB4.setCell (Nat.le_refl _) _, ((HWr.out.below HB2.out).below hB3).other (by omega) (by omega) (by omega) (by omega) (by omega) _ _, ?_⟩
        · have := HD.out.next HXn.out hlt
          rwa [HTk.out] at this
        · have := hB4.size
          have := hB3.size
          simp
          omega
      case measure => omega
    · obtain rfl : k = N := by omega
      have hrow : StrRow wr w.heap.size (litT l0 :: ls.map litT) := fun j y hy => by
        have hj : j < k := by
          have := (List.getElem?_eq_some_iff.1 hy).1
          simp at this
          have := HNl.out
          omega
        have h1 := HD.out j hj
        have h2 := HOr.out.cellAt j (by omega)
        rw [h1] at h2
        rw [h2]
        have h3 : (l0 :: ls)[j]? = some ((l0 :: ls).getD j zLi) := by
          rw [List.getD_eq_getElem?_getD, List.getElem?_eq_getElem (by show j < ls.length + 1; have := HNl.out; omega)]
          rfl
        have h4 : (litT l0 :: ls.map litT)[j]? = some (litT ((l0 :: ls).getD j zLi)) := by
          rw [show (litT l0 :: ls.map litT) = (l0 :: ls).map litT from rfl, List.getElem?_map, h3]
          rfl
        rw [h4] at hy
        cases hy
        rfl
      have HJ : Hid (Calls Tryz.prog 67 #[.slice (some ⟨w.heap.size, 0, none⟩) k k, .string ⟨#[44, 32]⟩] wr fun e w' => e = .returned (.string (accJ ⟨#[44, 32]⟩ (litT l0) (ls.map litT))) ∧ Below wr.heap.size wr w') := Lib.hid (by
        have hk1 := HNl.out
        by_cases h1 : ls.length = 0
        · obtain rfl := List.eq_nil_of_length_eq_zero h1
          obtain rfl : k = 1 := hk1
          refine (join_one w.heap.size 1 (litT l0) ⟨#[44, 32]⟩ wr hrow).mono ?_
          rintro e w' ⟨rfl, rfl⟩
          exact ⟨rfl, Below.refl _ _⟩
        · have hl : (ls.map litT).length = ls.length := by simp
          have hkk : k = (ls.map litT).length + 1 := by omega
          have hsz2 : (accJ ⟨#[44, 32]⟩ (litT l0) (ls.map litT)).size ≤ 1000000000000 := by
            rw [accJ_size, hl]
            have h2 := litT_len (HOk.out l0 (by simp))
            have h3 := sumN_map ls (fun l h => litT_len (HOk.out l (by simp [h])))
            have h4 : (⟨#[44, 32]⟩ : ByteArray).size = 2 := rfl
            rw [h4]
            omega
          have := join_many w.heap.size k (litT l0) (ls.map litT) ⟨#[44, 32]⟩ wr hrow (by omega) (by omega) (by omega) (by unfold maxLen; omega) (by decide) (by decide) hsz2 hsz
          rwa [← hkk] at this)
      rw [HR.out] at HJ
      clear hrow
      go_wp2_with (go_at_call 67; refine HJ.out.mono ?_; rintro e w3 ⟨rfl, hB3⟩)
      go_ret
      exact ⟨rfl, HBr.out.trans (hB3.mono HBr.out.size)⟩
end Go.Proofs.YtbcoklbfebmpoaaGreatDoor

