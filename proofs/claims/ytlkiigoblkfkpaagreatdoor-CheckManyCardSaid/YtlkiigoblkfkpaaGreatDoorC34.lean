/-
  WHAT THE PROOF STANDS ON, a part of it: CkNeg.
-/
import Derived.Test.YtlkiigoblkfkpaaGreatDoorC33
/-
  CONTRACT OF Negates, and of what it calls. (Written by tools/genckneg.py.)
-/

namespace Go.Proofs.YtlkiigoblkfkpaaGreatDoor
open Go.RowKit
open Utf Term
set_option linter.unusedVariables false
set_option linter.unusedSimpArgs false

theorem any_snoc {α : Type} (f : α → Bool) {l : List α} {k : Nat} {x : α} (h : l[k]? = some x) (h0 : (l.take k).any f = false) : (l.take (k + 1)).any f = f x := by
  rw [List.take_add_one, h, List.any_append, h0]
  simp
theorem any_of {α : Type} (f : α → Bool) (l : List α) (k : Nat) (h : (l.take k).any f = true) : l.any f = true := by
  rw [List.any_eq_true] at h ⊢
  obtain ⟨x, hx, hf⟩ := h
  exact ⟨x, List.mem_of_mem_take hx, hf⟩
theorem ruleAt_range {W : World} {g o : Nat} {p : PatD} {v : Value} (h : RuleAt W g o p v) : W.rangeAt g o (encRv p v) := fun j u hj => by
  obtain ⟨x0, x1, x2, x3, x4, x5, x6, x7, x8, x9, x10, x11, x12⟩ := h
  have hlt : j < 13 := (List.getElem?_eq_some_iff.1 hj).1
  match j, hlt with
  | 0, _ => cases hj; exact x0
  | 1, _ => cases hj; exact x1
  | 2, _ => cases hj; exact x2
  | 3, _ => cases hj; exact x3
  | 4, _ => cases hj; exact x4
  | 5, _ => cases hj; exact x5
  | 6, _ => cases hj; exact x6
  | 7, _ => cases hj; exact x7
  | 8, _ => cases hj; exact x8
  | 9, _ => cases hj; exact x9
  | 10, _ => cases hj; exact x10
  | 11, _ => cases hj; exact x11
  | 12, _ => cases hj; exact x12

set_option maxRecDepth 100000 in
set_option maxHeartbeats 8000000 in
theorem ckLIdx_any (ptr : Option Addr) (cap : Nat) (l : List LitD) (hl : l.length ≤ 1000000000) (w : World) (F : LitD → Bool)
    (hrow : ∀ U, Below w.heap.size w U → ∀ k x, l[k]? = some x → ∃ g o C, ptr = some ⟨g, o, none⟩ ∧ U.rangeAt g (o + k * 21) C ∧ C.length = 21 ∧ Calls Tryz.prog 22 #[.agg C.toArray] U fun e w' => e = .returned (.bool (F x)) ∧ Below U.heap.size U w') :
    Calls Tryz.prog 33 #[.slice ptr l.length cap, .func (.func 22) #[] #[]] w fun e w' => ∃ r : Int, e = .returned (.int .i64 r) ∧ decide (r ≥ 0) = l.any F ∧ Below w.heap.size w w' := by
  have HRow := Lib.hid hrow
  have HEx : Hid (∀ k, k < l.length → ∃ x, l[k]? = some x) := Lib.hid (fun k h => ⟨_, List.getElem?_eq_getElem h⟩)
  have HS1 : Hid (∀ k x, l[k]? = some x → (l.take k).any F = false → (l.take (k + 1)).any F = F x) := Lib.hid (fun k x h h0 => any_snoc F h h0)
  have HOf : Hid (∀ k, (l.take k).any F = true → l.any F = true) := Lib.hid (fun k h => any_of F l k h)
  have HAll : Hid ((l.take l.length).any F = l.any F) := Lib.hid (by rw [List.take_length])
  obtain ⟨n, hn⟩ : ∃ n, n = l.length := ⟨_, rfl⟩
  obtain ⟨R, hR⟩ : ∃ R, R = l.any F := ⟨_, rfl⟩
  rw [← hR] at HOf HAll ⊢
  rw [← hn] at HEx HAll hl ⊢
  clear hrow hn hR
  go_enter Tryz.func33, Tryz.ntmps33
  go_wp2
  go_loopg [8] n (fun gg i wr => ∃ k : Nat, k ≤ n ∧ n - k ≤ gg ∧ i = .int .i64 (k : Int) ∧ (l.take k).any F = false ∧ Below w.heap.size w wr)
  case atStart => exact ⟨0, Nat.zero_le _, by omega, rfl, rfl, Below.refl _ _⟩
  case round =>
    obtain ⟨k, hk, hg, rfl, h0, hbe⟩ := hrel
    have HBe := Lib.hid hbe
    have H0 := Lib.hid h0
    clear h0 hbe
    by_cases hlt : k < n
    · obtain ⟨x, hx⟩ := HEx.out k hlt
      obtain ⟨g, o, C, rfl, hc, hlen, hcall⟩ := HRow.out wr HBe.out k x hx
      have HTk := Lib.hid (HS1.out k x hx H0.out)
      have HOk := Lib.hid (HOf.out (k + 1))
      have HC := Lib.hid hc
      have HCl := Lib.hid hcall
      have HS : Hid ((Tryz.prog.info? 43).map (·.size) = some C.length) := Lib.hid (by rw [hlen]; kernel_rfl)
      have i0 : (0 : Int) ≤ (k : Int) := by omega
      have i1 : (k : Int) < (n : Int) := by omega
      have i3 : k + 1 ≤ 1000000001 := by omega
      clear hx hc hlen hcall
      cases hfx : F x with
      | false =>
        rw [hfx] at HCl HTk
        clear hfx HOk
        go_wp2_with (first
          | (refine wpList_load_mid rfl 43 (.tmp 14) rfl g (o + k * 21) rfl C _ HC.out Tryz.underlying43 rfl HS.out ?_)
          | (go_at_call 22; refine HCl.out.mono ?_; rintro e w4 ⟨rfl, hB4⟩; replace hB4 := Lib.hid hB4))
        go_roundg (n - (k + 1))
        case measure => omega
        case rel => exact ⟨k + 1, by omega, Nat.le_refl _, by go_num, HTk.out, HBe.out.trans (hB4.out.mono HBe.out.size)⟩
      | true =>
        rw [hfx] at HCl HTk
        have HRt : Hid (R = true) := Lib.hid (HOk.out HTk.out)
        clear hfx HOk
        go_wp2_with (first
          | (refine wpList_load_mid rfl 43 (.tmp 14) rfl g (o + k * 21) rfl C _ HC.out Tryz.underlying43 rfl HS.out ?_)
          | (go_at_call 22; refine HCl.out.mono ?_; rintro e w4 ⟨rfl, hB4⟩; replace hB4 := Lib.hid hB4))
        go_ret
        exact ⟨(k : Int), rfl, by rw [HRt.out]; exact decide_eq_true (by omega), HBe.out.trans (hB4.out.mono HBe.out.size)⟩
    · obtain rfl : k = n := by omega
      have HRf : Hid (R = false) := Lib.hid (by rw [← HAll.out, H0.out])
      go_wp2
      go_ret
      exact ⟨-1, rfl, by rw [HRf.out]; rfl, HBe.out⟩
set_option maxRecDepth 100000 in
theorem ckLCon_any (ptr : Option Addr) (cap : Nat) (l : List LitD) (hl : l.length ≤ 1000000000) (w : World) (F : LitD → Bool)
    (hrow : ∀ U, Below w.heap.size w U → ∀ k x, l[k]? = some x → ∃ g o C, ptr = some ⟨g, o, none⟩ ∧ U.rangeAt g (o + k * 21) C ∧ C.length = 21 ∧ Calls Tryz.prog 22 #[.agg C.toArray] U fun e w' => e = .returned (.bool (F x)) ∧ Below U.heap.size U w') :
    Calls Tryz.prog 21 #[.slice ptr l.length cap, .func (.func 22) #[] #[]] w fun e w' => e = .returned (.bool (l.any F)) ∧ Below w.heap.size w w' := by
  have HI := Lib.hid (ckLIdx_any ptr cap l hl w F hrow)
  clear hrow
  generalize l.length = n at *
  generalize l.any F = R at *
  go_enter Tryz.func21, Tryz.ntmps21
  go_wp2_with (go_at_call 33; refine HI.out.mono ?_; rintro e w2 ⟨r, rfl, hr, hb⟩; have e1 : decide (r ≥ 0) = R := hr; have e2 : decide (0 ≤ r) = R := hr; replace hb := Lib.hid hb)
  go_ret
  exact ⟨by first | rfl | simp [e1, e2], hb.out⟩

set_option maxRecDepth 100000 in
set_option maxHeartbeats 8000000 in
theorem ckRIdx_any (ptr : Option Addr) (cap : Nat) (l : List RuleD) (hl : l.length ≤ 1000000000) (w : World) (F : RuleD → Bool)
    (hrow : ∀ U, Below w.heap.size w U → ∀ k x, l[k]? = some x → ∃ g o C, ptr = some ⟨g, o, none⟩ ∧ U.rangeAt g (o + k * 13) C ∧ C.length = 13 ∧ Calls Tryz.prog 20 #[.agg C.toArray] U fun e w' => e = .returned (.bool (F x)) ∧ Below U.heap.size U w') :
    Calls Tryz.prog 32 #[.slice ptr l.length cap, .func (.func 20) #[] #[]] w fun e w' => ∃ r : Int, e = .returned (.int .i64 r) ∧ decide (r ≥ 0) = l.any F ∧ Below w.heap.size w w' := by
  have HRow := Lib.hid hrow
  have HEx : Hid (∀ k, k < l.length → ∃ x, l[k]? = some x) := Lib.hid (fun k h => ⟨_, List.getElem?_eq_getElem h⟩)
  have HS1 : Hid (∀ k x, l[k]? = some x → (l.take k).any F = false → (l.take (k + 1)).any F = F x) := Lib.hid (fun k x h h0 => any_snoc F h h0)
  have HOf : Hid (∀ k, (l.take k).any F = true → l.any F = true) := Lib.hid (fun k h => any_of F l k h)
  have HAll : Hid ((l.take l.length).any F = l.any F) := Lib.hid (by rw [List.take_length])
  obtain ⟨n, hn⟩ : ∃ n, n = l.length := ⟨_, rfl⟩
  obtain ⟨R, hR⟩ : ∃ R, R = l.any F := ⟨_, rfl⟩
  rw [← hR] at HOf HAll ⊢
  rw [← hn] at HEx HAll hl ⊢
  clear hrow hn hR
  go_enter Tryz.func32, Tryz.ntmps32
  go_wp2
  go_loopg [8] n (fun gg i wr => ∃ k : Nat, k ≤ n ∧ n - k ≤ gg ∧ i = .int .i64 (k : Int) ∧ (l.take k).any F = false ∧ Below w.heap.size w wr)
  case atStart => exact ⟨0, Nat.zero_le _, by omega, rfl, rfl, Below.refl _ _⟩
  case round =>
    obtain ⟨k, hk, hg, rfl, h0, hbe⟩ := hrel
    have HBe := Lib.hid hbe
    have H0 := Lib.hid h0
    clear h0 hbe
    by_cases hlt : k < n
    · obtain ⟨x, hx⟩ := HEx.out k hlt
      obtain ⟨g, o, C, rfl, hc, hlen, hcall⟩ := HRow.out wr HBe.out k x hx
      have HTk := Lib.hid (HS1.out k x hx H0.out)
      have HOk := Lib.hid (HOf.out (k + 1))
      have HC := Lib.hid hc
      have HCl := Lib.hid hcall
      have HS : Hid ((Tryz.prog.info? 46).map (·.size) = some C.length) := Lib.hid (by rw [hlen]; kernel_rfl)
      have i0 : (0 : Int) ≤ (k : Int) := by omega
      have i1 : (k : Int) < (n : Int) := by omega
      have i3 : k + 1 ≤ 1000000001 := by omega
      clear hx hc hlen hcall
      cases hfx : F x with
      | false =>
        rw [hfx] at HCl HTk
        clear hfx HOk
        go_wp2_with (first
          | (refine wpList_load_mid rfl 46 (.tmp 14) rfl g (o + k * 13) rfl C _ HC.out Tryz.underlying46 rfl HS.out ?_)
          | (go_at_call 20; refine HCl.out.mono ?_; rintro e w4 ⟨rfl, hB4⟩; replace hB4 := Lib.hid hB4))
        go_roundg (n - (k + 1))
        case measure => omega
        case rel => exact ⟨k + 1, by omega, Nat.le_refl _, by go_num, HTk.out, HBe.out.trans (hB4.out.mono HBe.out.size)⟩
      | true =>
        rw [hfx] at HCl HTk
        have HRt : Hid (R = true) := Lib.hid (HOk.out HTk.out)
        clear hfx HOk
        go_wp2_with (first
          | (refine wpList_load_mid rfl 46 (.tmp 14) rfl g (o + k * 13) rfl C _ HC.out Tryz.underlying46 rfl HS.out ?_)
          | (go_at_call 20; refine HCl.out.mono ?_; rintro e w4 ⟨rfl, hB4⟩; replace hB4 := Lib.hid hB4))
        go_ret
        exact ⟨(k : Int), rfl, by rw [HRt.out]; exact decide_eq_true (by omega), HBe.out.trans (hB4.out.mono HBe.out.size)⟩
    · obtain rfl : k = n := by omega
      have HRf : Hid (R = false) := Lib.hid (by rw [← HAll.out, H0.out])
      go_wp2
      go_ret
      exact ⟨-1, rfl, by rw [HRf.out]; rfl, HBe.out⟩
set_option maxRecDepth 100000 in
theorem ckRCon_any (ptr : Option Addr) (cap : Nat) (l : List RuleD) (hl : l.length ≤ 1000000000) (w : World) (F : RuleD → Bool)
    (hrow : ∀ U, Below w.heap.size w U → ∀ k x, l[k]? = some x → ∃ g o C, ptr = some ⟨g, o, none⟩ ∧ U.rangeAt g (o + k * 13) C ∧ C.length = 13 ∧ Calls Tryz.prog 20 #[.agg C.toArray] U fun e w' => e = .returned (.bool (F x)) ∧ Below U.heap.size U w') :
    Calls Tryz.prog 19 #[.slice ptr l.length cap, .func (.func 20) #[] #[]] w fun e w' => e = .returned (.bool (l.any F)) ∧ Below w.heap.size w w' := by
  have HI := Lib.hid (ckRIdx_any ptr cap l hl w F hrow)
  clear hrow
  generalize l.length = n at *
  generalize l.any F = R at *
  go_enter Tryz.func19, Tryz.ntmps19
  go_wp2_with (go_at_call 32; refine HI.out.mono ?_; rintro e w2 ⟨r, rfl, hr, hb⟩; have e1 : decide (r ≥ 0) = R := hr; have e2 : decide (0 ≤ r) = R := hr; replace hb := Lib.hid hb)
  go_ret
  exact ⟨by first | rfl | simp [e1, e2], hb.out⟩

theorem ckNot_any (l : LitD) (w : World) : Calls Tryz.prog 22 #[.agg (encLi l).toArray] w fun e w' => e = .returned (.bool (decide (l.1 = 2))) ∧ Below w.heap.size w w' := by
  have d1 := heap_alloc_new w (.cells (encLi l).toArray 43)
  have hb := (Below.refl w.heap.size w).alloc (Nat.le_refl _) (.cells (encLi l).toArray 43)
  obtain ⟨n0, hn0⟩ : ∃ n0, n0 = w.heap.size := ⟨_, rfl⟩
  rw [← hn0] at d1
  obtain ⟨C, hC⟩ : ∃ C, C = (encLi l).toArray := ⟨_, rfl⟩
  rw [← hC] at hb ⊢
  obtain ⟨W, hW⟩ : ∃ W, W = w.alloc (.cells C 43) := ⟨_, rfl⟩
  have k0 : W.cell? ⟨n0, 0, none⟩ = some (.int .i64 l.1) := by rw [hW, hC]; exact cell_in d1 rfl
  rw [← hW] at hb
  have HW := Lib.hid hW
  have HN := Lib.hid hn0
  have HB := Lib.hid hb
  have e1 : (l.1 == 2) = decide (l.1 = 2) := by rw [Bool.eq_iff_iff, beq_iff_eq, decide_eq_true_eq]
  clear d1 hb hn0 hC hW
  generalize decide (l.1 = 2) = b at *
  go_enter Tryz.func22, Tryz.ntmps22
  go_upto_region 1 with fail
  rw [← HW.out, ← HN.out]
  go_wp2
  go_ret
  exact ⟨by first | rfl | simp [e1], HB.out⟩
set_option maxRecDepth 100000 in
theorem ckNegR_any (r : RuleD) (s : SlD) (w : World) (hv : BodyS w (slV s) r.2) (hl : r.2.length ≤ 1000000000) : Calls Tryz.prog 20 #[.agg (encRv r.1 (slV s)).toArray] w fun e w' => e = .returned (.bool (negR r)) ∧ Below w.heap.size w w' := by
  obtain ⟨ptr, nl, cap⟩ := s
  have hnlb : nl = r.2.length ∧ (0 < r.2.length → ∃ g o, ptr = some ⟨g, o, none⟩ ∧ RowL w g o r.2) := by
    obtain ⟨p', c', e, _, hr⟩ := hv.form
    cases e
    exact ⟨rfl, hr⟩
  obtain ⟨rfl, hrow⟩ := hnlb
  have d1 := heap_alloc_new w (.cells (encRv r.1 (.slice ptr r.2.length cap)).toArray 46)
  have hb := (Below.refl w.heap.size w).alloc (Nat.le_refl _) (.cells (encRv r.1 (.slice ptr r.2.length cap)).toArray 46)
  obtain ⟨n0, hn0⟩ : ∃ n0, n0 = w.heap.size := ⟨_, rfl⟩
  rw [← hn0] at d1
  show Calls Tryz.prog _ #[.agg (encRv r.1 (.slice ptr r.2.length cap)).toArray] w _
  obtain ⟨C, hC⟩ : ∃ C, C = (encRv r.1 (.slice ptr r.2.length cap)).toArray := ⟨_, rfl⟩
  rw [← hC] at hb ⊢
  obtain ⟨W, hW⟩ : ∃ W, W = w.alloc (.cells C 46) := ⟨_, rfl⟩
  have k0 : W.cell? ⟨n0, 12, none⟩ = some (.slice ptr r.2.length cap) := by rw [hW, hC]; exact cell_in d1 rfl
  rw [← hW] at hb
  have HCon : Hid (Calls Tryz.prog 21 #[.slice ptr r.2.length cap, .func (.func 22) #[] #[]] W fun e w' => e = .returned (.bool (negR r)) ∧ Below W.heap.size W w') := Lib.hid (ckLCon_any ptr cap r.2 hl W (fun x => decide (x.1 = 2)) (fun U hU k x hx => by
    obtain ⟨g, o, e, hr⟩ := hrow (by have := (List.getElem?_eq_some_iff.1 hx).1; omega)
    have hr2 := (hr.below hb).below hU
    exact ⟨g, o, encLi x, e, hr2.range hx, rfl, ckNot_any x U⟩))
  have HW := Lib.hid hW
  have HN := Lib.hid hn0
  have HB := Lib.hid hb
  clear d1 hb hn0 hC hW hrow hv hl
  generalize r.2.length = nl at *
  generalize negR r = b at *
  go_enter Tryz.func20, Tryz.ntmps20
  go_upto_region 1 with fail
  rw [← HW.out, ← HN.out]
  go_wp2_with (go_at_call 21; refine HCon.out.mono ?_; rintro e w2 ⟨rfl, hb2⟩; replace hb2 := Lib.hid hb2)
  go_ret
  exact ⟨rfl, HB.out.trans (hb2.out.mono HB.out.size)⟩
theorem ckNegates_any {w : World} {v : Value} {rs : List RuleD} (hv : SliceRu w v rs) (hl : rs.length ≤ 1000000000) (hb : ∀ r ∈ rs, r.2.length ≤ 1000000000) :
    Calls Tryz.prog 11 #[v] w fun e w' => e = .returned (.bool (negP rs)) ∧ Below w.heap.size w w' := by
  obtain ⟨ptr, cap, rfl, _, hp⟩ := hv.form
  have HCon : Hid (Calls Tryz.prog 19 #[.slice ptr rs.length cap, .func (.func 20) #[] #[]] w fun e w' => e = .returned (.bool (negP rs)) ∧ Below w.heap.size w w') := Lib.hid (ckRCon_any ptr cap rs hl w negR (fun U hU k x hx => by
    obtain ⟨g, o, e, hr⟩ := hp (by have := (List.getElem?_eq_some_iff.1 hx).1; omega)
    obtain ⟨vv, hat, hbody⟩ := (hr.below hU) k x hx
    obtain ⟨pb, cb, rfl, _, _⟩ := hbody.form
    exact ⟨g, o, encRv x.1 (.slice pb x.2.length cb), e, ruleAt_range hat, rfl, ckNegR_any x (pb, x.2.length, cb) U hbody (hb x (List.mem_of_getElem? hx))⟩))
  clear hv hl hb hp
  generalize rs.length = n at *
  generalize negP rs = b at *
  go_enter Tryz.func11, Tryz.ntmps11
  go_wp2_with (go_at_call 19; refine HCon.out.mono ?_; rintro e w2 ⟨rfl, hb2⟩; replace hb2 := Lib.hid hb2)
  go_ret
  exact ⟨rfl, hb2.out⟩
end Go.Proofs.YtlkiigoblkfkpaaGreatDoor

