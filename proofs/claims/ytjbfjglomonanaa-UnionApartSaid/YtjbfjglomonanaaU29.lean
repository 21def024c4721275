/-
  WHAT THE PROOF STANDS ON, a part of it: UnRefJ.
-/
import Derived.Test.YtjbfjglomonanaaU26
import Derived.Test.YtjbfjglomonanaaU18
import Derived.Test.YtjbfjglomonanaaU2
import Derived.Test.YtjbfjglomonanaaU3
/-
  THE REFERENCE'S Join: contract.
-/

namespace Go.Proofs.Ytjbfjglomonanaa
open Go.RowKit
set_option linter.unusedVariables false
set_option linter.unusedSimpArgs false

def sameK (K : List (Nat × Nat)) (a b : Nat) : Bool := decide (a = 0 ∨ b = 0 ∨ b ∈ cliqueJ K a)
/-- The reference's joins: those that were two. -/
def joinK (K : List (Nat × Nat)) (a b : Nat) : List (Nat × Nat) := if sameK K a b = true then K else K ++ [(a, b)]
abbrev pair2 (x : Nat × Nat) : List Value := [.int .u32 (x.1 : Int), .int .u32 (x.2 : Int)]
def pairC (K : List (Nat × Nat)) : List Value := K.flatMap pair2
theorem pair2_len (x : Nat × Nat) : (pair2 x).length = 2 := rfl
theorem pairC_len (K : List (Nat × Nat)) : (pairC K).length = K.length * 2 := flat_len pair2 2 pair2_len K
theorem pairC_one (K : List (Nat × Nat)) : ∀ u ∈ pairC K, u.oneCell' = true := by
  intro u hu
  obtain ⟨x, _, h⟩ := List.mem_flatMap.1 hu
  simp only [pair2, List.mem_cons, List.not_mem_nil, or_false] at h
  rcases h with rfl | rfl <;> rfl
theorem PairR.cells {W : World} {ao : Option Addr} {K : List (Nat × Nat)} (h : PairR W ao K) (h0 : 0 < K.length) : ∃ a, ao = some a ∧ ∀ j u, (pairC K)[j]? = some u → W.cell? (a.add j) = some u := by
  obtain ⟨g, o, rfl, hc⟩ := h h0
  refine ⟨_, rfl, fun j u hu => ?_⟩
  have hj : j < K.length * 2 := by have := (List.getElem?_eq_some_iff.1 hu).1; rwa [pairC_len] at this
  obtain ⟨x, hx⟩ : ∃ x, K[j / 2]? = some x := ⟨_, List.getElem?_eq_getElem (by omega)⟩
  have f := flat_get pair2 2 pair2_len K (j / 2) (j % 2) x hx (Nat.mod_lt _ (by omega))
  rw [show j / 2 * 2 + j % 2 = j by omega] at f
  unfold pairC at hu
  rw [f] at hu
  rw [Addr.add_mid]
  rcases (show j % 2 = 0 ∨ j % 2 = 1 by omega) with e | e
  · rw [e] at hu
    cases hu
    rw [show o + j = o + j / 2 * 2 by omega]
    exact (hc _ _ hx).1
  · rw [e] at hu
    cases hu
    rw [show o + j = o + j / 2 * 2 + 1 by omega]
    exact (hc _ _ hx).2
theorem pairs_of_row {W : World} {e : TypeId} {ao : Option Addr} {cap n : Nat} {K : List (Nat × Nat)} (h : RowK W e 2 ao n cap (pairC K)) (hn : n = K.length) : PairR W ao K := fun h0 => by
  obtain ⟨g, o, rfl, hc, _⟩ := h.at_ (by omega)
  refine ⟨g, o, rfl, fun j x hx => ⟨hc _ _ (flat_get pair2 2 pair2_len K j 0 x hx (by omega)), ?_⟩⟩
  rw [Nat.add_assoc]
  exact hc _ _ (flat_get pair2 2 pair2_len K j 1 x hx (by omega))
theorem pairC_snoc (K : List (Nat × Nat)) (a b : Nat) : pairC (K ++ [(a, b)]) = pairC K ++ [.int .u32 (a : Int), .int .u32 (b : Int)] := by
  unfold pairC
  rw [List.flatMap_append]
  rfl
theorem info_pair : ∃ (i : TypeInfo) (z : Value), Try.prog.info? 30 = some i ∧ i.zero = some z ∧ i.size = 2 ∧ i.bytes = 8 ∧ z.cells.size = 2 := by
  obtain ⟨i, hi⟩ : ∃ i, Try.prog.info? 30 = some i := Option.isSome_iff_exists.1 (by kernel_rfl)
  refine ⟨i, .agg #[.int .u32 0, .int .u32 0], hi, ?_⟩
  have h : (Try.prog.info? 30).map (fun i => (i.zero, i.size, i.bytes)) = some (some (.agg #[.int .u32 0, .int .u32 0]), 2, 8) := by kernel_rfl
  rw [hi] at h
  simp only [Option.map_some, Option.some.injEq, Prod.mk.injEq] at h
  exact ⟨h.1, h.2.1, h.2.2, rfl⟩
set_option maxRecDepth 100000 in
set_option maxHeartbeats 8000000 in
theorem refJoin_any {ao : Option Addr} {cap : Nat} {K : List (Nat × Nat)} (a b : Nat) {w : World} (hK : PairR w ao K) (hle : K.length ≤ 1000) (hnz : ∀ z ∈ K, z.1 ≠ 0 ∧ z.2 ≠ 0) : Calls Try.prog 9 #[.slice ao K.length cap, .int .u32 (a : Int), .int .u32 (b : Int)] w fun e w' =>
    ∃ ao' cap', e = .returned (.tuple #[.slice ao' (joinK K a b).length cap', .bool (!sameK K a b)]) ∧ PairR w' ao' (joinK K a b) ∧ Below w.heap.size w w' ∧ ((ao' = ao ∧ joinK K a b = K) ∨ ∀ x, ao' = some x → w.heap.size ≤ x.block) := by
  have HK := Lib.hid hK
  have HKl : Hid ((cliqueJ K a).length ≤ 1000000) := Lib.hid (by
    have : (cliqueJ K a).length ≤ 1 + 2 * K.length := by
      unfold cliqueJ cliqueL
      have := runA_few K a
      split
      · simp
      · rw [List.length_mergeSort]
        exact this
    omega)
  have HCl := Lib.hid (refClique_any (cap := cap) a hK hle hnz)
  have HSame : Hid (∀ h : sameK K a b = true, (joinK K a b) = K) := Lib.hid (fun h => if_pos h)
  by_cases ha : a = 0
  · subst ha
    have hs : sameK K 0 b = true := decide_eq_true (.inl rfl)
    have hj := HSame.out hs
    rw [hs, hj]
    have e1 : (((0 : Nat) : Int) == 0) = true := by decide
    clear hK hnz HCl HKl HSame hs hj
    go_enter Try.func9, Try.ntmps9
    go_wp2
    go_ret2
    exact ⟨ao, cap, rfl, HK.out, Below.refl _ _, .inl (by simp)⟩
  have e1 : ((a : Int) == 0) = false := by rw [beq_eq_false_iff_ne]; omega
  by_cases hb : b = 0
  · subst hb
    have hs : sameK K a 0 = true := decide_eq_true (.inr (.inl rfl))
    have hj := HSame.out hs
    rw [hs, hj]
    have e2 : (((0 : Nat) : Int) == 0) = true := by decide
    clear hK hnz HCl HKl HSame hs hj
    go_enter Try.func9, Try.ntmps9
    go_wp2
    go_ret2
    exact ⟨ao, cap, rfl, HK.out, Below.refl _ _, .inl (by simp)⟩
  have e2 : ((b : Int) == 0) = false := by rw [beq_eq_false_iff_ne]; omega
  by_cases hm : b ∈ cliqueJ K a
  · have hs : sameK K a b = true := decide_eq_true (.inr (.inr hm))
    have hj := HSame.out hs
    rw [hs, hj]
    have HM := Lib.hid (decide_eq_true hm)
    clear hK hnz HSame hs hj hm
    go_enter Try.func9, Try.ntmps9
    go_wp2_with (first
      | (go_at_call 10; refine HCl.out.mono ?_; rintro e w1 ⟨aoc, capc, rfl, h1, h2⟩; have HIn := Lib.hid (refIn_any (cap := capc) b h1 HKl.out); rw [HM.out] at HIn; replace h1 := Lib.hid h1; replace h2 := Lib.hid h2)
      | (go_at_call 20; refine HIn.out.mono ?_; rintro e w2 ⟨rfl, rfl⟩))
    go_ret2
    exact ⟨ao, cap, rfl, HK.out.below h2.out, h2.out, .inl (by simp)⟩
  · have hs : sameK K a b = false := decide_eq_false (by rintro (h | h | h) <;> contradiction)
    have hj : joinK K a b = K ++ [(a, b)] := if_neg (by rw [hs]; decide)
    rw [hs, hj, List.length_append, List.length_singleton]
    have HM := Lib.hid (decide_eq_false hm)
    obtain ⟨iN, zN, hiN, hzN, hsN, hbN, hcN⟩ := info_pair
    have HIN := Lib.hid hiN
    have HZN := Lib.hid hzN
    have HSN := Lib.hid hsN
    have HBN := Lib.hid hbN
    have HCN := Lib.hid hcN
    obtain ⟨n, hn⟩ : ∃ n, n = K.length := ⟨_, rfl⟩
    rw [← hn] at hle HCl ⊢
    have HN := Lib.hid hn
    have HLc : Hid ((pairC K).length = n * 2) := Lib.hid (by rw [pairC_len, hn])
    have HOne := Lib.hid (pairC_one K)
    clear hK hnz HSame hs hj hm hiN hzN hsN hbN hcN hn
    go_enter Try.func9, Try.ntmps9
    go_upto_region 3 with (first
      | (go_at_call 10; refine HCl.out.mono ?_; rintro e w1 ⟨aoc, capc, rfl, h1, h2⟩; have HIn := Lib.hid (refIn_any (cap := capc) b h1 HKl.out); rw [HM.out] at HIn; replace h1 := Lib.hid h1; replace h2 := Lib.hid h2)
      | (go_at_call 20; refine HIn.out.mono ?_; rintro e w2 ⟨rfl, rfl⟩))
    have HSrc : Hid (0 < n → ∃ x, ao = some x ∧ ∀ j u, (pairC K)[j]? = some u → w2.cell? (x.add j) = some u) := Lib.hid (fun h => (HK.out.below h2.out).cells (by rw [← HN.out]; exact h))
    have HNil : Hid (RowK w2 30 2 none 0 0 []) := Lib.hid ⟨rfl, .inl ⟨rfl, rfl, rfl⟩⟩
    go_wp2_with (first
      | (at_builtin; refine wpList_append_rows (by rfl) (.const (.slice none 0 0)) (.tmp 22) 27 rfl 30 iN zN 2 8 Try.underlying27 HIN.out HZN.out HSN.out HBN.out HCN.out none 0 0 [] rfl HNil.out ao n cap (pairC K) rfl HLc.out HSrc.out HOne.out (by unfold maxLen; omega) (by omega) ?_; intro ao3 cap3 w3 hR3 hT3 hor3 _; rw [Nat.zero_add, List.nil_append] at hR3; have HR3 := Lib.hid (hR3.below ((Below.refl w3.heap.size w3).alloc (Nat.le_refl _) (.cells #[.int .u32 (a : Int), .int .u32 (b : Int)] 30))); have HT3 := Lib.hid (hT3.below (B := w2.heap.size) (Nat.le_refl _) (fun j hj => by obtain ⟨x, hx, _⟩ := hj; cases hx)); have HNw := Lib.hid (news_two w3 (.int .u32 (a : Int)) (.int .u32 (b : Int)) 30); have HLo := Lib.hid (show ∀ x, ao3 = some x → w2.heap.size ≤ x.block from fun x hx => by (rcases hor3 with h | h; (rw [h] at hx; cases hx); exact h x hx)); clear hR3 hT3 hor3)
      | (at_builtin; refine wpList_append_rowk (by rfl) (.tmp 23) (.tmp 27) 27 rfl 30 iN zN 2 8 Try.underlying27 HIN.out HZN.out HSN.out HBN.out HCN.out (by decide) ao3 n cap3 (pairC K) rfl HR3.out ⟨w3.heap.size, 0, none⟩ 1 [.int .u32 (a : Int), .int .u32 (b : Int)] rfl rfl HNw.out (by simp [Value.oneCell']) (by unfold maxLen; omega) (by omega) ?_; intro g4 o4 cap4 w4 hR4 hG4 hor4; replace hR4 := Lib.hid hR4; replace hG4 := Lib.hid hG4; replace hor4 := Lib.hid hor4))
    go_ret2
    have hb3 := h2.out.trans (HT3.out.mono h2.out.size)
    have ha3 := (Below.refl w3.heap.size w3).alloc (Nat.le_refl _) (.cells #[.int .u32 (a : Int), .int .u32 (b : Int)] 30)
    have hg4 : w.heap.size ≤ g4 := by
      rcases hor4.out with ⟨h, _⟩ | h
      · exact Nat.le_trans h2.out.size (HLo.out _ h)
      · exact Nat.le_trans (Nat.le_trans hb3.size ha3.size) h
    refine ⟨_, _, rfl, ?_, ?_, .inr fun x hx => by cases hx; exact hg4⟩
    · refine pairs_of_row (e := 30) (n := n + 1) (cap := cap4) ?_ (by rw [List.length_append, List.length_singleton, ← HN.out])
      rw [pairC_snoc]
      exact hR4.out
    · exact (hb3.trans (ha3.mono hb3.size)).trans (grown_belowU hG4.out (Nat.le_trans hb3.size ha3.size) hg4)
end Go.Proofs.Ytjbfjglomonanaa

