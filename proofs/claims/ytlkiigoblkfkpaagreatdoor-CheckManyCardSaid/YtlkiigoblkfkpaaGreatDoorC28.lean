/-
  WHAT THE PROOF STANDS ON, a part of it: CkCmpL.
-/
import Derived.Test.YtlkiigoblkfkpaaGreatDoorC27
/-
  CONTRACTS OF slices.CompareFunc AT PARTS. (Written by tools/genckcmp.py.)
-/

namespace Go.Proofs.YtlkiigoblkfkpaaGreatDoor
open Go.RowKit
open Utf Term
set_option linter.unusedVariables false
set_option linter.unusedSimpArgs false
theorem ckCmpFL_any_one (s : LitD) : (encLi s).toArray.all (·.oneCell') = true := litC_one s

set_option maxRecDepth 100000 in
set_option maxHeartbeats 8000000 in
theorem ckCmpFL_any (p q : Option Addr) (c c' : Nat) (l l' : List LitD) (hl : l.length ≤ 1000000000) (hl' : l'.length ≤ 1000000000) (w : World) (hp : 0 < l.length → ∃ g o, p = some ⟨g, o, none⟩ ∧ RowE encLi w g o l) (hq : 0 < l'.length → ∃ g o, q = some ⟨g, o, none⟩ ∧ RowE encLi w g o l') :
    Calls Tryz.prog 42 #[.slice p l.length c, .slice q l'.length c', .func (.func 43) #[] #[]] w fun e w' => e = .returned (.int .i64 (cmpLs cmpLi l l')) ∧ Grown w w' := by
  have HP := Lib.hid hp
  have HQ := Lib.hid hq
  have HCmp := Lib.hid ckParts_any
  have HR : Hid (∀ k, k ≤ l.length → k ≤ l'.length → l.take k = l'.take k → cmpLs cmpLi l l' = cmpLs cmpLi (l.drop k) (l'.drop k)) := Lib.hid (fun k h1 h2 h3 => cmpLs_take ord_lit k l l' h3 h1 h2)
  have HLl : Hid (∀ k, k < l.length → ∃ x, l[k]? = some x) := Lib.hid (fun k h => ⟨_, List.getElem?_eq_getElem h⟩)
  have HLm : Hid (∀ k, k < l'.length → ∃ x, l'[k]? = some x) := Lib.hid (fun k h => ⟨_, List.getElem?_eq_getElem h⟩)
  obtain ⟨R, hR⟩ : ∃ R, R = cmpLs cmpLi l l' := ⟨_, rfl⟩
  obtain ⟨n, hn⟩ : ∃ n, n = l.length := ⟨_, rfl⟩
  obtain ⟨m, hm⟩ : ∃ m, m = l'.length := ⟨_, rfl⟩
  rw [← hR] at HR ⊢
  rw [← hn] at HP HR HLl hl ⊢
  rw [← hm] at HQ HR HLm hl' ⊢
  have HN := Lib.hid hn
  have HM := Lib.hid hm
  clear hp hq hR hn hm
  go_enter Tryz.func42, Tryz.ntmps42
  go_wp2
  go_loopg [13] n (fun gg i wr => ∃ k : Nat, k ≤ n ∧ k ≤ m ∧ n - k ≤ gg ∧ i = .int .i64 (k : Int) ∧ l.take k = l'.take k ∧ Grown w wr)
  case atStart => exact ⟨0, Nat.zero_le _, Nat.zero_le _, by omega, rfl, rfl, Grown.refl _⟩
  case round =>
    obtain ⟨k, hk, hkm, hgg, rfl, htk, hbe⟩ := hrel
    have HTk := Lib.hid htk
    have HBe := Lib.hid hbe
    have HRk := Lib.hid (HR.out k hk hkm htk)
    clear htk hbe
    by_cases hlt : k < n
    · obtain ⟨x, hx⟩ := HLl.out k hlt
      obtain ⟨g, o, rfl, hr⟩ := HP.out (by omega)
      have HX := Lib.hid hx
      have HC1 := Lib.hid (belowR (hr.range 21 (fun _ => rfl) hx) HBe.out.below)
      obtain ⟨C1, hC1⟩ : ∃ C, C = encLi x := ⟨_, rfl⟩
      have hlen1 : C1.length = 21 := by rw [hC1]; rfl
      have hone1 : C1.toArray.all (·.oneCell') = true := by rw [hC1]; exact ckCmpFL_any_one x
      have hs1 : (Tryz.prog.info? 43).map (·.size) = some C1.length := by rw [hlen1]; kernel_rfl
      have hsa1 : (Tryz.prog.info? 43).map (·.size) = some C1.toArray.size := by rw [List.size_toArray, hlen1]; kernel_rfl
      have hst1 := ckStored wr (litC zLi) C1 (by rw [hlen1]; rfl) 43
      have HS1 := Lib.hid hs1
      have HSa1 := Lib.hid hsa1
      have HO1 := Lib.hid hone1
      have HT1 := Lib.hid hst1.1
      have HG1 := Lib.hid hst1.2.2
      have HR1 := Lib.hid hst1.2.1
      have HE1 := Lib.hid hC1
      rw [← hC1] at HC1
      clear hx hr hC1 hlen1 hone1 hs1 hsa1 hst1
      go_upto_region 4 with (first
        | (refine wpList_load_mid rfl 43 (.tmp 16) rfl g (o + k * 21) rfl C1 _ HC1.out Tryz.underlying43 rfl HS1.out ?_)
        | (refine wpList_store_mid rfl 43 (.tmp 8) (.tmp 17) rfl wr.heap.size 0 C1.toArray rfl rfl HT1.out HSa1.out HO1.out ?_))
      obtain ⟨n1, hn1⟩ : ∃ n1, n1 = wr.heap.size := ⟨_, rfl⟩
      rw [← hn1] at HR1 HG1 ⊢
      generalize World.setCells (World.alloc wr (Obj.cells _ _)) n1 0 C1.toArray.toList = W2 at *
      have hBe2 := HBe.out.step HG1.out
      have HBe2 := Lib.hid hBe2
      have HN1 := Lib.hid hn1
      clear HT1 HC1 hn1 hBe2
      by_cases hkm2 : k < m
      · obtain ⟨y, hy⟩ := HLm.out k hkm2
        obtain ⟨g', o', rfl, hr⟩ := HQ.out (by omega)
        have HY := Lib.hid hy
        have HC2 := Lib.hid (belowR (hr.range 21 (fun _ => rfl) hy) HBe2.out.below)
        obtain ⟨C2, hC2⟩ : ∃ C, C = encLi y := ⟨_, rfl⟩
        have hlen2 : C2.length = 21 := by rw [hC2]; rfl
        have hone2 : C2.toArray.all (·.oneCell') = true := by rw [hC2]; exact ckCmpFL_any_one y
        have hs2 : (Tryz.prog.info? 43).map (·.size) = some C2.length := by rw [hlen2]; kernel_rfl
        have hsa2 : (Tryz.prog.info? 43).map (·.size) = some C2.toArray.size := by rw [List.size_toArray, hlen2]; kernel_rfl
        have hst2 := ckStored W2 (litC zLi) C2 (by rw [hlen2]; rfl) 43
        have HS2 := Lib.hid hs2
        have HSa2 := Lib.hid hsa2
        have HO2 := Lib.hid hone2
        have HT2 := Lib.hid hst2.1
        have HG2 := Lib.hid hst2.2.2
        have HR2 := Lib.hid hst2.2.1
        have HE2 := Lib.hid hC2
        rw [← hC2] at HC2
        have e1 : decide ((k : Int) ≥ (m : Int)) = false := by simp; omega
        have e2 : decide ((m : Int) ≤ (k : Int)) = false := by simp; omega
        have e3 : decide (m ≤ k) = false := by simp; omega
        clear hy hr hC2 hlen2 hone2 hs2 hsa2 hst2
        go_upto_region 7 with (first
          | (refine wpList_load_mid rfl 43 (.tmp 24) rfl g' (o' + k * 21) rfl C2 _ HC2.out Tryz.underlying43 rfl HS2.out ?_)
          | (refine wpList_store_mid rfl 43 (.tmp 9) (.tmp 25) rfl W2.heap.size 0 C2.toArray rfl rfl HT2.out HSa2.out HO2.out ?_))
        obtain ⟨n2, hn2⟩ : ∃ n2, n2 = W2.heap.size := ⟨_, rfl⟩
        rw [← hn2] at HR2 HG2 ⊢
        generalize World.setCells (World.alloc W2 (Obj.cells _ _)) n2 0 C2.toArray.toList = W3 at *
        have HR13 := Lib.hid (belowR HR1.out HG2.out.below)
        have HCx : Hid (∀ U, Calls Tryz.prog 43 #[.agg C1.toArray, .agg C2.toArray] U fun e w' => e = .returned (.int .i64 (cmpLi x y)) ∧ Grown U w') := Lib.hid (fun U => by
          rw [HE1.out, HE2.out]
          exact HCmp.out x y U)
        have HBe3 := Lib.hid (HBe2.out.step HG2.out)
        have HRk2 : Hid (R = if cmpLi x y = 0 then cmpLs cmpLi (l.drop (k + 1)) (l'.drop (k + 1)) else cmpLi x y) := Lib.hid (by
          rw [HRk.out, drop_at HX.out, drop_at HY.out, cmpLs])
        have HXY : Hid (cmpLi x y = 0 → l.take (k + 1) = l'.take (k + 1)) := Lib.hid (fun h => by
          rw [List.take_add_one, List.take_add_one, HTk.out, HX.out, HY.out, ord_lit.of_eq h])
        clear HT2 HC2 hn2 HR1 HG2 HG1
        generalize cmpLi x y = v at *
        by_cases hv : v = 0
        · have HXY2 := Lib.hid (HXY.out hv)
          subst hv
          clear HXY
          go_wp2_with (first
            | (refine wpList_load_mid rfl 43 (.tmp 8) rfl n1 0 rfl C1 _ HR13.out Tryz.underlying43 rfl HS1.out ?_)
            | (refine wpList_load_mid rfl 43 (.tmp 9) rfl n2 0 rfl C2 _ HR2.out Tryz.underlying43 rfl HS2.out ?_)
            | (go_at_call 43; (with_reducible refine (HCx.out _).mono ?_); rintro e w4 ⟨rfl, hG4⟩; replace hG4 := Lib.hid hG4))
          go_roundg (n - (k + 1))
          case measure => omega
          case rel => exact ⟨k + 1, by omega, by omega, Nat.le_refl _, by go_num, HXY2.out, HBe3.out.step hG4.out⟩
        · have ev : (v != 0) = true := by simp [hv]
          have HRv : Hid (R = v) := Lib.hid (by rw [HRk2.out, if_neg hv])
          clear hv HXY HRk2
          go_wp2_with (first
            | (refine wpList_load_mid rfl 43 (.tmp 8) rfl n1 0 rfl C1 _ HR13.out Tryz.underlying43 rfl HS1.out ?_)
            | (refine wpList_load_mid rfl 43 (.tmp 9) rfl n2 0 rfl C2 _ HR2.out Tryz.underlying43 rfl HS2.out ?_)
            | (go_at_call 43; (with_reducible refine (HCx.out _).mono ?_); rintro e w4 ⟨rfl, hG4⟩; replace hG4 := Lib.hid hG4))
          go_ret
          exact ⟨by rw [HRv.out] <;> rfl, HBe3.out.step hG4.out⟩
      · have e1 : decide ((k : Int) ≥ (m : Int)) = true := by simp; omega
        have e2 : decide ((m : Int) ≤ (k : Int)) = true := by simp; omega
        have e3 : decide (m ≤ k) = true := by simp; omega
        have HRv : Hid (R = 1) := Lib.hid (by
          rw [HRk.out, drop_at HX.out, List.drop_eq_nil_of_le (show l'.length ≤ k by have := HM.out; omega), cmpLs])
        go_wp2
        go_ret
        exact ⟨by rw [HRv.out] <;> rfl, HBe2.out⟩
    · obtain rfl : k = n := by omega
      by_cases hnm : k < m
      · have e1 : decide ((k : Int) < (m : Int)) = true := by simp; omega
        have e2 : decide (k < m) = true := by simp; omega
        obtain ⟨y, hy⟩ := HLm.out k hnm
        have HRv : Hid (R = -1) := Lib.hid (by
          rw [HRk.out, drop_at hy, List.drop_eq_nil_of_le (show l.length ≤ k by have := HN.out; omega), cmpLs])
        clear hy
        go_wp2
        go_ret
        exact ⟨by rw [HRv.out] <;> rfl, HBe.out⟩
      · have e1 : decide ((k : Int) < (m : Int)) = false := by simp; omega
        have e2 : decide (k < m) = false := by simp; omega
        have HRv : Hid (R = 0) := Lib.hid (by
          rw [HRk.out, List.drop_eq_nil_of_le (show l'.length ≤ k by have := HM.out; omega), List.drop_eq_nil_of_le (show l.length ≤ k by have := HN.out; omega), cmpLs])
        go_wp2
        go_ret
        exact ⟨by rw [HRv.out] <;> rfl, HBe.out⟩
end Go.Proofs.YtlkiigoblkfkpaaGreatDoor

