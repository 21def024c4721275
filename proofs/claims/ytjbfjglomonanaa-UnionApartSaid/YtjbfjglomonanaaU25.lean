/-
  WHAT THE PROOF STANDS ON, a part of it: UnPut.
-/
import Derived.Test.YtjbfjglomonanaaU24
/-
  THE REFERENCE'S Put: contract. (Written by tools/genunput.py.)
-/

namespace Go.Proofs.Ytjbfjglomonanaa
open Go.RowKit
set_option linter.unusedVariables false
set_option linter.unusedSimpArgs false

def foldP (l : List Nat) (a k : Nat) : List Nat × Bool := (l.take k).foldl (stepP a) ([], false)
theorem foldP_succ {l : List Nat} {a k x : Nat} (h : l[k]? = some x) : foldP l a (k + 1) = stepP a (foldP l a k) x := by
  unfold foldP
  rw [List.take_add_one, h, List.foldl_append]
  rfl
theorem foldP_len (l : List Nat) (a k : Nat) : (foldP l a k).1.length ≤ 2 * k := by
  induction k with
  | zero => simp [foldP]
  | succ k ih =>
    cases h : l[k]? with
    | none =>
      unfold foldP at *
      rw [List.take_add_one, h]
      simp only [Option.toList_none, List.append_nil]
      omega
    | some x =>
      rw [foldP_succ h]
      unfold stepP
      split <;> simp <;> omega
set_option maxRecDepth 100000 in
set_option maxHeartbeats 4000000 in
theorem put_any {ao : Option Addr} {cap : Nat} {l : List Nat} (a : Nat) {w : World} (h : ElR keyU w ao l) (hle : l.length ≤ 100000) : Calls Try.prog 21 #[.slice ao l.length cap, .int .u32 (a : Int)] w fun e w' =>
    ∃ ao' cap', e = .returned (.slice ao' (putL l a).length cap') ∧ ElR keyU w' ao' (putL l a) ∧ Below w.heap.size w w' := by
  have H := Lib.hid h
  clear h
  obtain ⟨n, hn⟩ : ∃ n, n = l.length := ⟨_, rfl⟩
  rw [← hn] at hle ⊢
  have HN := Lib.hid hn
  clear hn
  obtain ⟨iN, zN, hiN, hzN, hsN, hbN, hcN⟩ := info_un32
  have HIN := Lib.hid hiN
  have HZN := Lib.hid hzN
  have HSN := Lib.hid hsN
  have HBN := Lib.hid hbN
  have HCN := Lib.hid hcN
  clear hiN hzN hsN hbN hcN
  go_enter Try.func21, Try.ntmps21
  go_wp2
  go_loopg [5, 6, 7] n (fun gg s d i wr => ∃ k ao2 cap2, k ≤ n ∧ n - k ≤ gg ∧ i = .int .i64 (k : Int) ∧ s = .slice ao2 (foldP l a k).1.length cap2 ∧ OwnR keyU 23 w.heap.size wr ao2 cap2 (foldP l a k).1 ∧ d = .bool (foldP l a k).2 ∧ Below w.heap.size w wr)
  case atStart => exact ⟨0, none, 0, by omega, by omega, rfl, rfl, OwnR.nil, rfl, Below.refl _ _⟩
  case round =>
    obtain ⟨k, ao2, cap2, hk, hg, rfl, rfl, how, rfl, hbe⟩ := hrel
    have HO := Lib.hid how
    have HB := Lib.hid hbe
    have hfl := foldP_len l a k
    clear how hbe
    obtain rfl | hkn : k = n ∨ k < n := by omega
    · have HP : Hid (putL l a = if (foldP l a k).2 then (foldP l a k).1 else (foldP l a k).1 ++ [a]) := Lib.hid (by
        unfold putL foldP
        rw [List.take_of_length_le (by have := HN.out; omega)])
      obtain ⟨L, hL⟩ : ∃ L, L = (foldP l a k).1 := ⟨_, rfl⟩
      obtain ⟨d, hd⟩ : ∃ d, d = (foldP l a k).2 := ⟨_, rfl⟩
      rw [← hL] at HO hfl HP ⊢
      rw [← hd] at HP ⊢
      clear hL hd
      cases d with
      | true =>
        have HP2 : Hid (putL l a = L) := Lib.hid (by rw [HP.out]; rfl)
        go_wp2
        go_ret
        exact ⟨ao2, ⟨cap2, by rw [HP2.out]; rfl⟩, by rw [HP2.out]; exact HO.out.elR, HB.out⟩
      | false =>
        have HP2 : Hid (putL l a = L ++ [a]) := Lib.hid (by rw [HP.out]; rfl)
        have HLen : Hid ((putL l a).length = L.length + 1) := Lib.hid (by rw [HP2.out]; simp)
        have HVl3 := Lib.hid (HO.out.1.below ((Below.refl wr.heap.size wr).alloc (Nat.le_refl _) (.cells #[.int .u32 (a : Int)] 23)))
        have HNw3 := Lib.hid (news_one wr (.int .u32 (a : Int)) 23)
        have HMo3 := Lib.hid (HO.out.more HB.out.size a (.int .u32 (a : Int)) rfl)
        have HLl3 := Lib.hid (HO.out)
        go_upto_region 12 with (at_builtin; refine wpList_append_rowk (by rfl) (.tmp 37) (.tmp 39) 33 rfl 23 iN zN 1 4 Try.underlying33 HIN.out HZN.out HSN.out HBN.out HCN.out (by decide) ao2 L.length cap2 (L.map keyU) rfl HVl3.out ⟨wr.heap.size, 0, none⟩ 1 [.int .u32 (a : Int)] rfl rfl HNw3.out (by simp [Value.oneCell']) (by unfold maxLen; omega) (by omega) ?_; intro g3 o3 cap3 w3 hR3 hG3 hor3; have HE3 := Lib.hid (HMo3.out _ _ _ _ hR3 hG3 hor3); clear hR3 hG3 hor3)
        have HEx := HE3
        go_wp2
        go_ret
        exact ⟨some ⟨g3, o3, none⟩, cap3, by rw [HLen.out]; rfl, by rw [HP2.out]; exact HEx.out.2.elR, HB.out.trans HEx.out.1⟩
    · have hkl : k < l.length := by have := HN.out; omega
      obtain ⟨g, o, rfl, hc⟩ := H.out (by omega)
      have c0 := hc k _ (List.getElem?_eq_getElem hkl)
      have HLo : Hid (g < w.heap.size) := Lib.hid (World.block_lt_of_cell? _ _ c0)
      have c0 := (HB.out.cell (p := ⟨g, o + k, none⟩) (World.block_lt_of_cell? _ _ c0)).trans c0
      have hsu := foldP_succ (a := a) (List.getElem?_eq_getElem hkl)
      obtain ⟨x, hx⟩ : ∃ x, x = l[k] := ⟨_, rfl⟩
      rw [← hx] at c0 hsu
      have HSu := Lib.hid hsu
      have e4 : decide ((k : Int) < (n : Int)) = true := decide_eq_true (by omega)
      clear hc hx hsu
      obtain ⟨L, hL⟩ : ∃ L, L = (foldP l a k).1 := ⟨_, rfl⟩
      obtain ⟨d, hd⟩ : ∃ d, d = (foldP l a k).2 := ⟨_, rfl⟩
      have hst : foldP l a k = (L, d) := by rw [hL, hd]
      rw [hst] at HSu
      rw [← hL] at HO hfl ⊢
      rw [← hd]
      clear hL hd hst
      cases d with
      | true =>
        have HF : Hid (foldP l a (k + 1) = (L ++ [x], true)) := Lib.hid (by rw [HSu.out]; simp [stepP])
        have HLen : Hid ((L ++ [x]).length = L.length + 1) := Lib.hid (by simp)
        go_upto_region 9 with fail
        have HVl3 := Lib.hid (HO.out.1.below ((Below.refl wr.heap.size wr).alloc (Nat.le_refl _) (.cells #[.int .u32 (x : Int)] 23)))
        have HNw3 := Lib.hid (news_one wr (.int .u32 (x : Int)) 23)
        have HMo3 := Lib.hid (HO.out.more HB.out.size x (.int .u32 (x : Int)) rfl)
        have HLl3 := Lib.hid (HO.out)
        go_upto_region 5 with (at_builtin; refine wpList_append_rowk (by rfl) (.tmp 28) (.tmp 33) 33 rfl 23 iN zN 1 4 Try.underlying33 HIN.out HZN.out HSN.out HBN.out HCN.out (by decide) ao2 L.length cap2 (L.map keyU) rfl HVl3.out ⟨wr.heap.size, 0, none⟩ 1 [.int .u32 (x : Int)] rfl rfl HNw3.out (by simp [Value.oneCell']) (by unfold maxLen; omega) (by omega) ?_; intro g3 o3 cap3 w3 hR3 hG3 hor3; have HE3 := Lib.hid (HMo3.out _ _ _ _ hR3 hG3 hor3); clear hR3 hG3 hor3)
        have HEx := HE3
        have HBn := Lib.hid (HB.out.trans HEx.out.1)
        go_wp2
        go_roundg (n - (k + 1))
        case measure => omega
        case rel => exact ⟨k + 1, some ⟨g3, o3, none⟩, cap3, by omega, by omega, by go_num, by rw [HF.out, HLen.out], by rw [HF.out]; exact HEx.out.2, by rw [HF.out], HBn.out⟩
      | false =>
        by_cases hax : a < x
        · have e5 : decide ((x : Int) > (a : Int)) = true := decide_eq_true (by omega)
          have e6 : decide ((a : Int) < (x : Int)) = true := decide_eq_true (by omega)
          have e7 : decide (a < x) = true := decide_eq_true hax
          have HF : Hid (foldP l a (k + 1) = (L ++ [a, x], true)) := Lib.hid (by rw [HSu.out]; simp [stepP, hax])
          have HLen : Hid ((L ++ [a, x]).length = (L ++ [a]).length + 1) := Lib.hid (by simp)
          clear hax
          go_upto_region 7 with fail
          have HVl3 := Lib.hid (HO.out.1.below ((Below.refl wr.heap.size wr).alloc (Nat.le_refl _) (.cells #[.int .u32 (a : Int)] 23)))
          have HNw3 := Lib.hid (news_one wr (.int .u32 (a : Int)) 23)
          have HMo3 := Lib.hid (HO.out.more HB.out.size a (.int .u32 (a : Int)) rfl)
          have HLl3 := Lib.hid (HO.out)
          go_upto_region 8 with (at_builtin; refine wpList_append_rowk (by rfl) (.tmp 24) (.tmp 26) 33 rfl 23 iN zN 1 4 Try.underlying33 HIN.out HZN.out HSN.out HBN.out HCN.out (by decide) ao2 L.length cap2 (L.map keyU) rfl HVl3.out ⟨wr.heap.size, 0, none⟩ 1 [.int .u32 (a : Int)] rfl rfl HNw3.out (by simp [Value.oneCell']) (by unfold maxLen; omega) (by omega) ?_; intro g3 o3 cap3 w3 hR3 hG3 hor3; have HE3 := Lib.hid (HMo3.out _ _ _ _ hR3 hG3 hor3); clear hR3 hG3 hor3)
          have HO3 := Lib.hid HE3.out.2
          have HB3 := Lib.hid (HB.out.trans HE3.out.1)
          have c1 := (HE3.out.1.cell (p := ⟨g, o + k, none⟩) (HLo.out)).trans c0
          obtain ⟨L3, hL3⟩ : ∃ L3, L3 = L ++ [a] := ⟨_, rfl⟩
          have hl3 : L.length + 1 = L3.length := by rw [hL3]; simp
          have HL3 := Lib.hid hL3
          rw [← hL3] at HO3 HLen
          rw [hl3]
          have hfl3 : L3.length ≤ 2 * k + 1 := by omega
          clear hL3 hl3 c0
          go_upto_region 9 with fail
          have HVl4 := Lib.hid (HO3.out.1.below ((Below.refl w3.heap.size w3).alloc (Nat.le_refl _) (.cells #[.int .u32 (x : Int)] 23)))
          have HNw4 := Lib.hid (news_one w3 (.int .u32 (x : Int)) 23)
          have HMo4 := Lib.hid (HO3.out.more HB3.out.size x (.int .u32 (x : Int)) rfl)
          have HLl4 := Lib.hid (HO3.out)
          go_upto_region 5 with (at_builtin; refine wpList_append_rowk (by rfl) (.tmp 28) (.tmp 33) 33 rfl 23 iN zN 1 4 Try.underlying33 HIN.out HZN.out HSN.out HBN.out HCN.out (by decide) (some ⟨g3, o3, none⟩) L3.length cap3 (L3.map keyU) rfl HVl4.out ⟨w3.heap.size, 0, none⟩ 1 [.int .u32 (x : Int)] rfl rfl HNw4.out (by simp [Value.oneCell']) (by unfold maxLen; omega) (by omega) ?_; intro g4 o4 cap4 w4 hR4 hG4 hor4; have HE4 := Lib.hid (HMo4.out _ _ _ _ hR4 hG4 hor4); clear hR4 hG4 hor4)
          have HBn := Lib.hid (HB3.out.trans HE4.out.1)
          have HL4 : Hid (L3 ++ [x] = L ++ [a, x]) := Lib.hid (by rw [HL3.out]; simp)
          go_wp2
          go_roundg (n - (k + 1))
          case measure => omega
          case rel => exact ⟨k + 1, some ⟨g4, o4, none⟩, cap4, by omega, by omega, by go_num, by rw [HF.out, HLen.out], by rw [HF.out, ← HL4.out]; exact HE4.out.2, by rw [HF.out], HBn.out⟩
        · have e5 : decide ((x : Int) > (a : Int)) = false := decide_eq_false (by omega)
          have e6 : decide ((a : Int) < (x : Int)) = false := decide_eq_false (by omega)
          have e7 : decide (a < x) = false := decide_eq_false hax
          have HF : Hid (foldP l a (k + 1) = (L ++ [x], false)) := Lib.hid (by rw [HSu.out]; simp [stepP, hax])
          have HLen : Hid ((L ++ [x]).length = L.length + 1) := Lib.hid (by simp)
          clear hax
          go_upto_region 9 with fail
          have HVl3 := Lib.hid (HO.out.1.below ((Below.refl wr.heap.size wr).alloc (Nat.le_refl _) (.cells #[.int .u32 (x : Int)] 23)))
          have HNw3 := Lib.hid (news_one wr (.int .u32 (x : Int)) 23)
          have HMo3 := Lib.hid (HO.out.more HB.out.size x (.int .u32 (x : Int)) rfl)
          have HLl3 := Lib.hid (HO.out)
          go_upto_region 5 with (at_builtin; refine wpList_append_rowk (by rfl) (.tmp 28) (.tmp 33) 33 rfl 23 iN zN 1 4 Try.underlying33 HIN.out HZN.out HSN.out HBN.out HCN.out (by decide) ao2 L.length cap2 (L.map keyU) rfl HVl3.out ⟨wr.heap.size, 0, none⟩ 1 [.int .u32 (x : Int)] rfl rfl HNw3.out (by simp [Value.oneCell']) (by unfold maxLen; omega) (by omega) ?_; intro g3 o3 cap3 w3 hR3 hG3 hor3; have HE3 := Lib.hid (HMo3.out _ _ _ _ hR3 hG3 hor3); clear hR3 hG3 hor3)
          have HEx := HE3
          have HBn := Lib.hid (HB.out.trans HEx.out.1)
          go_wp2
          go_roundg (n - (k + 1))
          case measure => omega
          case rel => exact ⟨k + 1, some ⟨g3, o3, none⟩, cap3, by omega, by omega, by go_num, by rw [HF.out, HLen.out], by rw [HF.out]; exact HEx.out.2, by rw [HF.out], HBn.out⟩
end Go.Proofs.Ytjbfjglomonanaa

