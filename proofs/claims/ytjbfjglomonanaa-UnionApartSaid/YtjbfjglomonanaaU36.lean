/-
  WHAT THE PROOF STANDS ON, a part of it: UnApart.
-/
import Derived.Test.YtjbfjglomonanaaU35
import Derived.Test.YtjbfjglomonanaaU32
/-
  A COPY GOES ON APART; WHAT All GOES OVER STAYS. (Written by tools/genunapart.py.)
-/

namespace Go.Proofs.Ytjbfjglomonanaa
open Go.RowKit
set_option linter.unusedVariables false
set_option linter.unusedSimpArgs false
attribute [local go_sem] Oper.semAt_some

set_option maxRecDepth 100000 in
theorem apart_long (ao bo co : Option Addr) (c0 c1 c2 : Nat) (n0 n1 n2 : Nat) (w : World) (h : 30 < n0 ∨ 30 < n1 ∨ 30 < n2) : Calls Try.prog 5 #[.slice ao n0 c0, .slice bo n1 c1, .slice co n2 c2] w fun e w' => e = .returned (.bool true) ∧ Below w.heap.size w w' := by
  have HK := Lib.hid known_any
  have d1 := heap_alloc_new w (.cells #[.bool false] 4)
  have HB1 := Lib.hid ((Below.refl w.heap.size w).alloc (Nat.le_refl _) (.cells #[.bool false] 4))
  obtain ⟨w1, hw1⟩ : ∃ w1, w1 = w.alloc (.cells #[.bool false] 4) := ⟨_, rfl⟩
  obtain ⟨b6, hb6⟩ : ∃ b6, b6 = w.heap.size := ⟨_, rfl⟩
  rw [← hw1] at d1 HB1
  rw [← hb6] at d1
  have HW1 := Lib.hid hw1
  have HB6 := Lib.hid hb6
  have HD1 := Lib.hid d1
  have HE : Hid (∀ U, Below w1.heap.size w1 U → U.cell? ⟨b6, 0, none⟩ = some (.bool false) ∧ U.frozen? ⟨b6, 0, none⟩ = false ∧ (U.setCell ⟨b6, 0, none⟩ (.bool true)).cell? ⟨b6, 0, none⟩ = some (.bool true) ∧ Below w.heap.size w (U.setCell ⟨b6, 0, none⟩ (.bool true))) := Lib.hid (fun U hU => by
    have hd := (hU.block b6 (Array.getElem?_eq_some_iff.1 d1).1).trans d1
    refine ⟨cell_in hd rfl, free_in hd 0, cell_in (heap_setCell_same U b6 0 _ _ _ hd) rfl, (HB1.out.trans (hU.mono HB1.out.size)).setCell (p := ⟨b6, 0, none⟩) (show w.heap.size ≤ b6 by omega) _⟩)
  clear d1 hw1 hb6
  by_cases h0 : 30 < n0
  · have e1 : decide ((n0 : Int) > 30) = true := decide_eq_true (by omega)
    have e2 : decide (30 < (n0 : Int)) = true := decide_eq_true (by omega)
    have e3 : decide (30 < n0) = true := decide_eq_true (by omega)
    go_enter Try.func5, Try.ntmps5
    go_upto_region 1 with fail
    rw [← HW1.out, ← HB6.out]
    go_wp2_with (go_at_call 6; refine (HK.out _).mono ?_; rintro e w' ⟨rfl, hY⟩; obtain ⟨x1, x2, x3, x4⟩ := HE.out _ hY; replace x4 := Lib.hid x4)
    refine bodyPost_ret (v := .bool true) (by simp [results, Try.f5, go_sem, x3]) rfl ?_
    exact ⟨rfl, x4.out⟩
  have e1 : decide ((n0 : Int) > 30) = false := decide_eq_false (by omega)
  have e2 : decide (30 < (n0 : Int)) = false := decide_eq_false (by omega)
  have e3 : decide (30 < n0) = false := decide_eq_false (by omega)
  by_cases h1 : 30 < n1
  · have f1 : decide ((n1 : Int) > 30) = true := decide_eq_true (by omega)
    have f2 : decide (30 < (n1 : Int)) = true := decide_eq_true (by omega)
    have f3 : decide (30 < n1) = true := decide_eq_true (by omega)
    go_enter Try.func5, Try.ntmps5
    go_upto_region 1 with fail
    rw [← HW1.out, ← HB6.out]
    go_wp2_with (go_at_call 6; refine (HK.out _).mono ?_; rintro e w' ⟨rfl, hY⟩; obtain ⟨x1, x2, x3, x4⟩ := HE.out _ hY; replace x4 := Lib.hid x4)
    refine bodyPost_ret (v := .bool true) (by simp [results, Try.f5, go_sem, x3]) rfl ?_
    exact ⟨rfl, x4.out⟩
  have f1 : decide ((n1 : Int) > 30) = false := decide_eq_false (by omega)
  have f2 : decide (30 < (n1 : Int)) = false := decide_eq_false (by omega)
  have f3 : decide (30 < n1) = false := decide_eq_false (by omega)
  have h2 : 30 < n2 := by omega
  have g1 : decide ((n2 : Int) > 30) = true := decide_eq_true (by omega)
  have g2 : decide (30 < (n2 : Int)) = true := decide_eq_true (by omega)
  have g3 : decide (30 < n2) = true := decide_eq_true (by omega)
  go_enter Try.func5, Try.ntmps5
  go_upto_region 1 with fail
  rw [← HW1.out, ← HB6.out]
  go_wp2_with (go_at_call 6; refine (HK.out _).mono ?_; rintro e w' ⟨rfl, hY⟩; obtain ⟨x1, x2, x3, x4⟩ := HE.out _ hY; replace x4 := Lib.hid x4)
  refine bodyPost_ret (v := .bool true) (by simp [results, Try.f5, go_sem, x3]) rfl ?_
  exact ⟨rfl, x4.out⟩
theorem UnI.is {W : World} {S : Nat → Prop} {pb : Nat} {J : List (Nat × Nat)} (h : UnI W S pb J) : UnIS (fun _ _ => False) W S pb J := by
  obtain ⟨nb, cb, cl, h⟩ := h
  exact ⟨nb, cb, cl, h, fun _ _ h => h.elim⟩
theorem PlayI.start {T V : Nat → Prop} {P : Addr → Value → Prop} {W : World} {pb : Nat} {J : List (Nat × Nat)} {ao : Option Addr} {L : List (Nat × Nat)} {S : Nat → Prop} (hE : Eff J L) (hR : PairR W ao L) (hS : UnIS P W S pb J) (hn : ∀ j, W.heap.size ≤ j → T j) (hT : ∀ j, S j → T j) (hA : Apart S ao L) (hv : ∀ j, V j → j < W.heap.size) (hV : Apart V ao L) : PlayI T V P W pb J J ao L :=
  ⟨hn, hE, hR, hv, hV, S, hS, hT, hA⟩
theorem PairR.lt {W : World} {ao : Option Addr} {L : List (Nat × Nat)} (h : PairR W ao L) (h0 : 0 < L.length) {x : Addr} (hx : ao = some x) : x.block < W.heap.size := by
  obtain ⟨g, o, e, hc⟩ := h h0
  obtain ⟨y, hy⟩ : ∃ y, L[0]? = some y := ⟨_, List.getElem?_eq_getElem h0⟩
  rw [e] at hx
  cases hx
  exact World.block_lt_of_cell? W ⟨g, o + 0 * 2, none⟩ (hc 0 y hy).1
theorem allC_block {ab : Nat} {ao : Option Addr} {xs : List (ClD × List Nat)} {W : World} {p : Addr} {v : Value} (h : AllC ab ao xs W p v) : p.block = ab ∨ (∃ a, ao = some a ∧ p.block = a.block) ∨ ∃ x ∈ xs, ∃ a, x.1.ao = some a ∧ p.block = a.block := by
  rcases h.2 with h | h | ⟨x, hx, a, j, h1, _, rfl⟩
  · exact .inl h
  · exact .inr (.inl h)
  · exact .inr (.inr ⟨x, hx, a, h1, add_block a j⟩)
set_option maxRecDepth 100000 in
set_option maxHeartbeats 32000000 in
theorem apart_walk (ao0 ao1 ao2 : Option Addr) (c0 c1 c2 : Nat) (l0 l1 l2 : List (Nat × Nat)) (w : World) (h0 : PairR w ao0 l0) (h1 : PairR w ao1 l1) (h2 : PairR w ao2 l2) : Calls Try.prog 5 #[.slice ao0 l0.length c0, .slice ao1 l1.length c1, .slice ao2 l2.length c2] w fun e w' => e = .returned (.bool true) ∧ Below w.heap.size w w' := by
  by_cases hlong : 30 < l0.length ∨ 30 < l1.length ∨ 30 < l2.length
  · exact apart_long _ _ _ _ _ _ _ _ _ w hlong
  have HK := Lib.hid known_any
  have HNw := Lib.hid unNew
  have HP0 := Lib.hid h0
  have HP1 := Lib.hid h1
  have HP2 := Lib.hid h2
  obtain ⟨n0, hn0⟩ : ∃ n0, n0 = l0.length := ⟨_, rfl⟩
  obtain ⟨n1, hn1⟩ : ∃ n1, n1 = l1.length := ⟨_, rfl⟩
  obtain ⟨n2, hn2⟩ : ∃ n2, n2 = l2.length := ⟨_, rfl⟩
  rw [← hn0, ← hn1, ← hn2] at hlong
  rw [← hn0, ← hn1, ← hn2]
  have H30 : Hid (n0 ≤ 30 ∧ n1 ≤ 30 ∧ n2 ≤ 30) := Lib.hid (by omega)
  have HN0 := Lib.hid hn0
  have HN1 := Lib.hid hn1
  have HN2 := Lib.hid hn2
  have e01 : decide ((n0 : Int) > 30) = false := decide_eq_false (by omega)
  have e02 : decide (30 < (n0 : Int)) = false := decide_eq_false (by omega)
  have e03 : decide (30 < n0) = false := decide_eq_false (by omega)
  have e11 : decide ((n1 : Int) > 30) = false := decide_eq_false (by omega)
  have e12 : decide (30 < (n1 : Int)) = false := decide_eq_false (by omega)
  have e13 : decide (30 < n1) = false := decide_eq_false (by omega)
  have e21 : decide ((n2 : Int) > 30) = false := decide_eq_false (by omega)
  have e22 : decide (30 < (n2 : Int)) = false := decide_eq_false (by omega)
  have e23 : decide (30 < n2) = false := decide_eq_false (by omega)
  clear hn0 hn1 hn2 h0 h1 h2 hlong
  have d1 := heap_alloc_new w (.cells #[.bool false] 4)
  have hb1 := (Below.refl w.heap.size w).alloc (Nat.le_refl _) (.cells #[.bool false] 4)
  have s1 : (w.alloc (.cells #[.bool false] 4)).heap.size = w.heap.size + 1 := World.size_alloc _ _
  obtain ⟨w1, hw1⟩ : ∃ w1, w1 = w.alloc (.cells #[.bool false] 4) := ⟨_, rfl⟩
  obtain ⟨b6, hb6⟩ : ∃ b6, b6 = w.heap.size := ⟨_, rfl⟩
  rw [← hw1] at d1 hb1 s1
  rw [← hb6] at d1 s1
  have HW1 := Lib.hid hw1
  have HB6 := Lib.hid hb6
  have HB1 := Lib.hid hb1
  have HD1 := Lib.hid d1
  have HS1 := Lib.hid s1
  clear hw1 hb6 hb1 d1 s1
  refine (callsIn_wide (n := 9)).1 (callsIn_of_wp_marks Try.func5 rfl trivial (wpIn_mono (wpIn_wide.2 ?_) (fun e a w h => calm_le (Q := _) h)) rfl)
  simp only [Try.ntmps5, List.size_toArray, List.length_cons, List.length_nil, Nat.reduceAdd, Nat.reduceSub, Array.replicate_succ, Array.replicate_zero, List.push_toArray, List.append_toArray, List.nil_append, List.cons_append]
  go_upto_region 1 with fail
  rw [← HW1.out, ← HB6.out]
  go_upto_region 4 with (go_at_call 7; refine (HNw.out w1).mono ?_; rintro e w2 ⟨pb, rfl, hb2, hu2⟩; replace hb2 := Lib.hid hb2; replace hu2 := Lib.hid hu2)
  have d3 := heap_alloc_new w2 (.cells #[.slice none 0 0] 27)
  have hb3 := (Below.refl w2.heap.size w2).alloc (Nat.le_refl _) (.cells #[.slice none 0 0] 27)
  have s3 : (w2.alloc (.cells #[.slice none 0 0] 27)).heap.size = w2.heap.size + 1 := World.size_alloc _ _
  obtain ⟨w3, hw3⟩ : ∃ w3, w3 = w2.alloc (.cells #[.slice none 0 0] 27) := ⟨_, rfl⟩
  obtain ⟨b8, hb8⟩ : ∃ b8, b8 = w2.heap.size := ⟨_, rfl⟩
  rw [← hw3] at d3 hb3 s3
  rw [← hb8] at d3 s3
  have HW3 := Lib.hid hw3
  have HB8 := Lib.hid hb8
  obtain ⟨T1, hT1⟩ : ∃ T1 : Nat → Prop, T1 = fun j => w1.heap.size ≤ j ∧ j ≠ b8 := ⟨_, rfl⟩
  have HT1 : Hid (∀ j, T1 j ↔ w1.heap.size ≤ j ∧ j ≠ b8) := Lib.hid (fun j => by rw [hT1])
  have HPl : Hid (PlayI T1 (fun _ => False) (fun _ _ => False) w3 pb (l0.take 0) (l0.take 0) none []) := Lib.hid (by
    have hsz := hb2.out.size
    refine PlayI.start (S := fun j => w1.heap.size ≤ j ∧ j < w2.heap.size) Eff.nil (fun h => (by simp at h)) (UnI.is (hu2.out.below hb3)) (fun j hj => (HT1.out j).2 (by omega)) (fun j hj => (HT1.out j).2 (by have := hj.1; have := hj.2; omega)) (fun h => (by simp at h)) (fun j h => h.elim) (fun h => (by simp at h)))
  have HBw3 : Hid (Below w.heap.size w w3) := Lib.hid (by
    have h1 := HB1.out.trans (hb2.out.mono HB1.out.size)
    exact h1.trans (hb3.mono h1.size))
  have hk6 : w3.heap[b6]? = some (.cells #[.bool false] 4 (0, 0)) := (hb3.block b6 (by have := hb2.out.size; have := HS1.out; omega)).trans ((hb2.out.block b6 (by have := HS1.out; omega)).trans HD1.out)
  have HK6 := Lib.hid hk6
  have HD3 := Lib.hid d3
  have HLow : Hid (w.heap.size ≤ b6 ∧ b6 < w1.heap.size ∧ w1.heap.size ≤ b8) := Lib.hid (by have := HB6.out; have := HS1.out; have := hb2.out.size; omega)
  clear hw3 hb8 hT1 d3 hb3 s3 hk6 hb2 hu2
  go_upto_region 5 with fail
  rw [← HW3.out, ← HB8.out]
  go_wp2
  go_loopg [9] n0 (fun gg i wr => ∃ (k : Nat) (K : List (Nat × Nat)) (aoK : Option Addr) (capK : Nat), k ≤ n0 ∧ n0 - k ≤ gg ∧ i = .int .i64 (k : Int) ∧ wr.heap[b8]? = some (.cells #[.slice aoK K.length capK] 27 (0, 0)) ∧ wr.heap[b6]? = some (.cells #[.bool false] 4 (0, 0)) ∧ Below w.heap.size w wr ∧ PlayI T1 (fun _ => False) (fun _ _ => False) wr pb (l0.take k) (l0.take k) aoK K)
  case atStart => exact ⟨0, [], none, 0, by omega, by omega, rfl, HD3.out, HK6.out, HBw3.out, HPl.out⟩
  case round =>
    obtain ⟨k, K, aoK, capK, hk, hg, rfl, hbx8, hbx6, hbe, hpl⟩ := hrel
    obtain ⟨wy, hwy⟩ : ∃ wy, wy = wr := ⟨_, rfl⟩
    subst hwy
    clear HPl HD3 HK6 HBw3
    have HPl := Lib.hid hpl
    have HBe := Lib.hid hbe
    have HX8 := Lib.hid hbx8
    have HX6 := Lib.hid hbx6
    clear hpl hbe hbx8 hbx6 HNw
    obtain rfl | hkn : k = n0 ∨ k < n0 := by omega
    · skip
      have htk : l0.take k = l0 := List.take_of_length_le (by have := HN0.out; omega)
      have hpl := HPl.out
      rw [htk] at hpl
      have hlen : l0.length ≤ 1000 := by have := HN0.out; have := H30.out; omega
      obtain ⟨S, huis, hsT, hsA⟩ := hpl.un
      obtain ⟨w8, rfl⟩ : ∃ w8, w8 = wy := ⟨_, rfl⟩
      obtain ⟨k0, rfl⟩ : ∃ k0, k0 = k := ⟨_, rfl⟩
      obtain ⟨KW, rfl⟩ : ∃ KW, KW = K := ⟨_, rfl⟩
      obtain ⟨aoW, rfl⟩ : ∃ aoW, aoW = aoK := ⟨_, rfl⟩
      obtain ⟨capW, rfl⟩ : ∃ capW, capW = capK := ⟨_, rfl⟩
      have HUis := Lib.hid huis
      have HsT := Lib.hid hsT
      have HsA := Lib.hid hsA
      have HEffW := Lib.hid hpl.eff
      have HRowW := Lib.hid hpl.row
      have HLen0 := Lib.hid hlen
      have HCo := Lib.hid (UnI.copy huis.un hlen)
      clear htk hpl hlen huis hsT hsA HPl
      go_upto_region 12 with (first
        | (go_at_call 16; refine HCo.out.mono ?_; rintro e wc ⟨qb, rfl, hqu, hbc⟩; have HAl := Lib.hid (UnI.allK (HUis.out.un.below hbc) HLen0.out); replace hqu := Lib.hid hqu; replace hbc := Lib.hid hbc)
        | (go_at_call 17; refine HAl.out.mono ?_; rintro e wa ⟨ab, ao, cap, xs, rfl, hq, hap, hab, hba, hus, hrow, hlst⟩; replace hq := Lib.hid hq; replace hap := Lib.hid hap; replace hab := Lib.hid hab; replace hba := Lib.hid hba; replace hus := Lib.hid hus; replace hrow := Lib.hid hrow; replace hlst := Lib.hid hlst))
      obtain ⟨N, hNx⟩ : ∃ N, N = xs.length := ⟨_, rfl⟩
      have HNx := Lib.hid hNx
      have HLen : Hid (Calls Try.prog 15 #[unP pb] wa fun e w' => e = .returned (.int .i64 (N : Int)) ∧ wa = w') := Lib.hid (by
        have h8 := count_all HEffW.out hap.out
        unfold tellL at h8
        rw [List.length_map, ← hNx] at h8
        refine (hus.out.un.len h8).mono ?_
        rintro e w' ⟨rfl, rfl⟩
        exact ⟨rfl, rfl⟩)
      have hfn := run_func_nil11
      clear hNx HCo HAl
      go_upto_region 15 with (go_at_call 15; refine HLen.out.mono ?_; rintro e w' ⟨rfl, rfl⟩)
      have d12 := heap_alloc_new wa (.cells #[.int .i64 (N : Int)] 3)
      have hb12a := (Below.refl wa.heap.size wa).alloc (Nat.le_refl _) (.cells #[.int .i64 (N : Int)] 3)
      have s12 : (wa.alloc (.cells #[.int .i64 (N : Int)] 3)).heap.size = wa.heap.size + 1 := World.size_alloc _ _
      obtain ⟨wn, hwn⟩ : ∃ wn, wn = wa.alloc (.cells #[.int .i64 (N : Int)] 3) := ⟨_, rfl⟩
      obtain ⟨b12, hb12⟩ : ∃ b12, b12 = wa.heap.size := ⟨_, rfl⟩
      rw [← hwn] at d12 hb12a s12
      rw [← hb12] at d12 s12
      rw [← hb12, ← hwn]
      have h8n : Below w8.heap.size w8 wn := hbc.out.trans ((hba.out.mono hbc.out.size).trans (hb12a.mono (Nat.le_trans hbc.out.size hba.out.size)))
      have x8 : wn.cell? ⟨b8, 0, none⟩ = some (.slice aoW KW.length capW) := cell_in ((h8n.block b8 (Array.getElem?_eq_some_iff.1 HX8.out).1).trans HX8.out) rfl
      have H8n := Lib.hid h8n
      have HD12 := Lib.hid d12
      have HSzs : Hid (w8.heap.size ≤ wc.heap.size ∧ wc.heap.size ≤ b12 ∧ b12 < wn.heap.size ∧ b12 = wa.heap.size ∧ b8 < w8.heap.size ∧ b6 < w8.heap.size) := Lib.hid ⟨hbc.out.size, by have := hba.out.size; omega, by omega, hb12, (Array.getElem?_eq_some_iff.1 HX8.out).1, (Array.getElem?_eq_some_iff.1 HX6.out).1⟩
      have HAn : Hid (Below wa.heap.size wa wn) := Lib.hid hb12a
      clear hb12 hwn d12 hb12a s12 h8n HLen hfn
      go_quiet (fail)
      clear x8
      obtain ⟨wB, hwB⟩ : ∃ wB, wB = wn.drewN nq := ⟨_, rfl⟩
      rw [← hwB]
      have HX8B : Hid (wB.heap[b8]? = some (.cells #[.slice aoW KW.length capW] 27 (0, 0))) := Lib.hid (by rw [hwB]; exact (H8n.out.block b8 (Array.getElem?_eq_some_iff.1 HX8.out).1).trans HX8.out)
      have HX6B : Hid (wB.heap[b6]? = some (.cells #[.bool false] 4 (0, 0))) := Lib.hid (by rw [hwB]; exact (H8n.out.block b6 (Array.getElem?_eq_some_iff.1 HX6.out).1).trans HX6.out)
      have HX12B : Hid (wB.heap[b12]? = some (.cells #[.int .i64 (N : Int)] 3 (0, 0))) := Lib.hid (by rw [hwB]; exact HD12.out)
      have H8B : Hid (Below w8.heap.size w8 wB) := Lib.hid (by rw [hwB]; exact below_drewU H8n.out nq)
      have HAB : Hid (Below wa.heap.size wa wB) := Lib.hid (by rw [hwB]; exact below_drewU HAn.out nq)
      have HCB : Hid (Below wc.heap.size wc wB) := Lib.hid (hba.out.trans (HAB.out.mono hba.out.size))
      have HSzB : Hid (b12 < wB.heap.size) := Lib.hid (by rw [hwB]; exact HSzs.out.2.2.1)
      have HBB := Lib.hid (HBe.out.trans (H8B.out.mono HBe.out.size))
      obtain ⟨Ta, hTa⟩ : ∃ Ta : Nat → Prop, Ta = fun j => S j ∨ wB.heap.size ≤ j := ⟨_, rfl⟩
      have HTa : Hid (∀ j, Ta j ↔ S j ∨ wB.heap.size ≤ j) := Lib.hid (fun j => by rw [hTa])
      obtain ⟨Va, hVa⟩ : ∃ Va : Nat → Prop, Va = fun j => w8.heap.size ≤ j ∧ j < wc.heap.size := ⟨_, rfl⟩
      have HVa : Hid (∀ j, Va j ↔ w8.heap.size ≤ j ∧ j < wc.heap.size) := Lib.hid (fun j => by rw [hVa])
      obtain ⟨P, hP⟩ : ∃ P : Addr → Value → Prop, P = AllC ab ao xs wa := ⟨_, rfl⟩
      have HP := Lib.hid hP
      have HSlt : Hid (∀ j, S j → w1.heap.size ≤ j ∧ j ≠ b8 ∧ j < w8.heap.size) := Lib.hid (fun j hj => by have h1 := (HT1.out j).1 (HsT.out j hj); exact ⟨h1.1, h1.2, HUis.out.un.lt j hj⟩)
      have HRowB := Lib.hid (HRowW.out.below H8B.out)
      have HVB : Hid (∀ j, Va j → j < wB.heap.size) := Lib.hid (fun j hj => by have := (HVa.out j).1 hj; have := HSzs.out; have := HSzB.out; omega)
      have HVap : Hid (Apart Va aoW KW) := Lib.hid (fun h0 x hx hs => by
        have h1 := HRowW.out.lt h0 hx
        have h2 := (HVa.out _).1 hs
        omega)
      have HPl : Hid (PlayI Ta Va P wB pb (l0 ++ l1.take 0) (l0 ++ l1.take 0) aoW KW) := Lib.hid (by
        rw [List.take_zero, List.append_nil]
        exact PlayI.start HEffW.out HRowB.out (by rw [hP]; exact hus.out.below HAB.out) (fun j hj => (HTa.out j).2 (.inr hj)) (fun j hj => (HTa.out j).2 (.inl hj)) HsA.out HVB.out HVap.out)
      have HLowTa : Hid (∀ j, Ta j → w.heap.size ≤ j) := Lib.hid (fun j hj => by
        rcases (HTa.out j).1 hj with h | h
        · have := (HSlt.out j h).1; have := HLow.out; omega
        · have := HBB.out.size; omega)
      have HU2 : Hid (UnI wB Va qb l0) := Lib.hid (by rw [hVa]; exact hqu.out.below HCB.out)
      clear hwB hTa hVa hP HsT hqu hus
      go_wp2
      go_loopg [13, 15] n1 (fun gg s i wr => ∃ (k : Nat) (K : List (Nat × Nat)) (aoK : Option Addr) (capK : Nat), k ≤ n1 ∧ n1 - k ≤ gg ∧ i = .int .i64 (k : Int) ∧ s = .slice aoK K.length capK ∧ Below w.heap.size w wr ∧ Turned Ta wB wr ∧ PlayI Ta Va P wr pb (l0 ++ l1.take k) (l0 ++ l1.take k) aoK K)
      case atStart => exact ⟨0, KW, aoW, capW, by omega, by omega, rfl, rfl, HBB.out, Turned.refl, HPl.out⟩
      case round =>
        obtain ⟨k, K, aoK, capK, hk, hg, rfl, rfl, hbe, htur, hpl⟩ := hrel
        obtain ⟨wy, hwy⟩ : ∃ wy, wy = wr := ⟨_, rfl⟩
        subst hwy
        have HPl := Lib.hid hpl
        have HBe := Lib.hid hbe
        have HTur := Lib.hid htur
        clear hpl hbe htur
        clear HX8 HX6 HT1
        obtain rfl | hkn : k = n1 ∨ k < n1 := by omega
        · skip
          have htk : l1.take k = l1 := List.take_of_length_le (by have := HN1.out; omega)
          have hpl := HPl.out
          rw [htk] at hpl
          obtain ⟨wC, rfl⟩ : ∃ wC, wC = wy := ⟨_, rfl⟩
          obtain ⟨k1, rfl⟩ : ∃ k1, k1 = k := ⟨_, rfl⟩
          obtain ⟨X, rfl⟩ : ∃ X, X = K := ⟨_, rfl⟩
          obtain ⟨aoX, rfl⟩ : ∃ aoX, aoX = aoK := ⟨_, rfl⟩
          obtain ⟨capX, rfl⟩ : ∃ capX, capX = capK := ⟨_, rfl⟩
          have HPX := Lib.hid hpl
          have HBC := Lib.hid HBe.out
          have HTC := Lib.hid HTur.out
          have HN1k := Lib.hid (show k1 = l1.length from HN1.out)
          clear htk hpl HPl HBe HTur
          obtain ⟨Tb, hTb⟩ : ∃ Tb : Nat → Prop, Tb = fun j => Va j ∨ wC.heap.size ≤ j := ⟨_, rfl⟩
          have HTb : Hid (∀ j, Tb j ↔ Va j ∨ wC.heap.size ≤ j) := Lib.hid (fun j => by rw [hTb])
          have HnTa : Hid (∀ j, j < wB.heap.size → ¬ S j → ¬ Ta j) := Lib.hid (fun j h1 h2 h3 => by
            rcases (HTa.out j).1 h3 with h | h
            · exact h2 h
            · omega)
          have HVC : Hid (∀ j, Va j → ¬ Ta j) := Lib.hid (fun j hj => HnTa.out j (HVB.out j hj) (fun h => by have := HSlt.out j h; have := (HVa.out j).1 hj; omega))
          have HU2C : Hid (UnI wC Va qb l0) := Lib.hid (HU2.out.beside HTC.out HVC.out)
          have HAtW : Hid (Apart Ta aoW KW) := Lib.hid (fun h0 x hx => HnTa.out _ (HRowB.out.lt h0 hx) (HsA.out h0 x hx))
          have HRowC : Hid (PairR wC aoW KW) := Lib.hid (HRowB.out.turned HTC.out HAtW.out)
          have HLowTb : Hid (∀ j, Tb j → w.heap.size ≤ j) := Lib.hid (fun j hj => by
            rcases (HTb.out j).1 hj with h | h
            · have := (HVa.out j).1 h; have := HSzs.out; have := HLow.out; omega
            · have := HBC.out.size; omega)
          have HPl : Hid (PlayI Tb (fun _ => False) (fun _ _ => False) wC qb (l0 ++ l2.take 0) (l0 ++ l2.take 0) aoW KW) := Lib.hid (by
            rw [List.take_zero, List.append_nil]
            exact PlayI.start HEffW.out HRowC.out HU2C.out.is (fun j hj => (HTb.out j).2 (.inr hj)) (fun j hj => (HTb.out j).2 (.inl hj)) HVap.out (fun j h => h.elim) (fun _ _ _ h => h.elim))
          clear hTb
          go_wp2
          go_loopg [14, 16] n2 (fun gg s i wr => ∃ (k : Nat) (K : List (Nat × Nat)) (aoK : Option Addr) (capK : Nat), k ≤ n2 ∧ n2 - k ≤ gg ∧ i = .int .i64 (k : Int) ∧ s = .slice aoK K.length capK ∧ Below w.heap.size w wr ∧ Turned Tb wC wr ∧ PlayI Tb (fun _ => False) (fun _ _ => False) wr qb (l0 ++ l2.take k) (l0 ++ l2.take k) aoK K)
          case atStart => exact ⟨0, KW, aoW, capW, by omega, by omega, rfl, rfl, HBC.out, Turned.refl, HPl.out⟩
          case round =>
            obtain ⟨k, K, aoK, capK, hk, hg, rfl, rfl, hbe, htur, hpl⟩ := hrel
            obtain ⟨wy, hwy⟩ : ∃ wy, wy = wr := ⟨_, rfl⟩
            subst hwy
            have HPl := Lib.hid hpl
            have HBe := Lib.hid hbe
            have HTur := Lib.hid htur
            clear hpl hbe htur
            obtain rfl | hkn : k = n2 ∨ k < n2 := by omega
            · skip
              have htk : l2.take k = l2 := List.take_of_length_le (by have := HN2.out; omega)
              have hpl := HPl.out
              rw [htk] at hpl
              obtain ⟨wD, rfl⟩ : ∃ wD, wD = wy := ⟨_, rfl⟩
              obtain ⟨k2, rfl⟩ : ∃ k2, k2 = k := ⟨_, rfl⟩
              obtain ⟨Y, rfl⟩ : ∃ Y, Y = K := ⟨_, rfl⟩
              obtain ⟨aoY, rfl⟩ : ∃ aoY, aoY = aoK := ⟨_, rfl⟩
              obtain ⟨capY, rfl⟩ : ∃ capY, capY = capK := ⟨_, rfl⟩
              have HPY := Lib.hid hpl
              have HBD := Lib.hid HBe.out
              have HTD := Lib.hid HTur.out
              have HN2k := Lib.hid (show k2 = l2.length from HN2.out)
              clear htk hpl HPl HBe HTur
              have HCD : Hid (wB.heap.size ≤ wC.heap.size) := Lib.hid HTC.out.size
              have HnTb : Hid (∀ j, j < wC.heap.size → ¬ Va j → ¬ Tb j) := Lib.hid (fun j h1 h2 h3 => by
                rcases (HTb.out j).1 h3 with h | h
                · exact h2 h
                · omega)
              have hS8 : ¬ S b8 := fun h => (HSlt.out b8 h).2.1 rfl
              have hS6 : ¬ S b6 := fun h => by have := HSlt.out b6 h; have := HLow.out; omega
              have hS12 : ¬ S b12 := fun h => by have := HSlt.out b12 h; have := HSzs.out; omega
              have hV8 : ¬ Va b8 := fun h => by have := (HVa.out b8).1 h; have := HSzs.out; omega
              have hV6 : ¬ Va b6 := fun h => by have := (HVa.out b6).1 h; have := HSzs.out; omega
              have hV12 : ¬ Va b12 := fun h => by have := (HVa.out b12).1 h; have := HSzs.out; omega
              have hl8 : b8 < wB.heap.size := by have := HSzs.out; have := HSzB.out; omega
              have hl6 : b6 < wB.heap.size := by have := HSzs.out; have := HSzB.out; omega
              have hkeep : ∀ b, b < wB.heap.size → ¬ S b → ¬ Va b → wD.heap[b]? = wB.heap[b]? := fun b h1 h2 h3 => (HTD.out.block b (by have := HCD.out; omega) (HnTb.out b (by have := HCD.out; omega) h3)).trans (HTC.out.block b h1 (HnTa.out b h1 h2))
              have HX8D := Lib.hid ((hkeep b8 hl8 hS8 hV8).trans HX8B.out)
              have HX6D := Lib.hid ((hkeep b6 hl6 hS6 hV6).trans HX6B.out)
              have HX12D := Lib.hid ((hkeep b12 HSzB.out hS12 hV12).trans HX12B.out)
              have HRowD : Hid (PairR wD aoW KW) := Lib.hid (HRowC.out.turned HTD.out (fun h0 x hx => HnTb.out _ (HRowC.out.lt h0 hx) (HVap.out h0 x hx)))
              have HPc0 : Hid (∀ p v, AllC ab ao xs wa p v → wD.cell? p = some v ∧ p.block ≠ b12) := Lib.hid (fun p v hpv => by
                obtain ⟨Sx, h1, _, _⟩ := HPX.out.un
                have h2 : wC.cell? p = some v := h1.cell (by rw [HP.out]; exact hpv)
                refine ⟨HTD.out.cell (a := p) (HnTb.out _ (World.block_lt_of_cell? _ _ h2) (fun hv => ?_)) h2, fun e => by have := World.block_lt_of_cell? _ _ hpv.1; have := HSzs.out; omega⟩
                have h3 := (HVa.out _).1 hv
                rcases allC_block hpv with e | ⟨a, ha, e⟩ | ⟨x, hx, a, ha, e⟩
                · have := hab.out; omega
                · have := hrow.out a ha; omega
                · have := HSlt.out _ (hlst.out x hx a ha); omega)
              have HLen00 : Hid (l0.length ≤ 30) := Lib.hid (by have := HN0.out; have := H30.out; omega)
              have HL11 : Hid (l1.length ≤ 30) := Lib.hid (by have := HN1k.out; have := H30.out; omega)
              have HL22 : Hid (l2.length ≤ 30) := Lib.hid (by have := HN2k.out; have := H30.out; omega)
              have HXD : Hid (∃ Sx, UnI wD Sx pb (l0 ++ l1) ∧ ¬ Sx b12) := Lib.hid (by
                obtain ⟨Sx, h1, h2, _⟩ := HPX.out.un
                refine ⟨Sx, h1.un.beside HTD.out (fun j hj => ?_), fun h => HnTa.out b12 HSzB.out hS12 (h2 _ h)⟩
                refine HnTb.out j (h1.un.lt j hj) (fun hv => ?_)
                have h3 := (HVa.out _).1 hv
                rcases (HTa.out j).1 (h2 j hj) with h | h
                · have := HSlt.out j h; omega
                · have := HSzs.out; have := HSzB.out; omega)
              have HXrow : Hid (PairR wD aoX X) := Lib.hid (HPX.out.row.turned HTD.out (fun h0 x hx => HnTb.out _ (HPX.out.row.lt h0 hx) (HPX.out.vap h0 x hx)))
              have HYD : Hid (∃ Sy, UnI wD Sy qb (l0 ++ l2) ∧ ¬ Sy b12) := Lib.hid (by
                obtain ⟨Sy, h1, h2, _⟩ := HPY.out.un
                exact ⟨Sy, h1.un, fun h => HnTb.out b12 (by have := HSzB.out; have := HCD.out; omega) hV12 (h2 _ h)⟩)
              have HYrow : Hid (PairR wD aoY Y) := Lib.hid HPY.out.row
              have HEffX := Lib.hid HPX.out.eff
              have HEffY := Lib.hid HPY.out.eff
              have HL12 : Hid (b12 < wD.heap.size ∧ w.heap.size ≤ b12 ∧ w.heap.size ≤ b6 ∧ b6 ≠ b12 ∧ b8 ≠ b12) := Lib.hid (by have := HSzB.out; have := HCD.out; have := HTD.out.size; have := HSzs.out; have := HLow.out; omega)
              clear hS8 hS6 hS12 hV8 hV6 hV12 hl8 hl6 hkeep HPX HPY HRowC HRowB HU2C HU2 HVap HVB HVC HAtW
              go_wp2
              refine (wpIn_wide (n := 9)).1 ?_
              have hfew := all_few HEffW.out hap.out
              have hN60 : N ≤ 60 := by
                unfold tellL at hfew
                rw [List.length_map, ← HNx.out] at hfew
                have := HLen00.out
                omega
              have HPcD : Hid (∀ p v, AllC ab ao xs wa p v → wD.cell? p = some v ∧ p.block ≠ b12) := Lib.hid HPc0.out
              have HQU : Hid (∀ U, Turned (fun j => j = b12) wD U → AllQ ab ao cap xs U) := Lib.hid (fun U hU => hq.out.keepC fun p v hpv => hU.cell (a := p) (HPcD.out p v hpv).2 (HPcD.out p v hpv).1)
              obtain ⟨R, htell0, _, _⟩ := hap.out
              have HTell : Hid (tellL xs = R.map fun r => (r, cliqueJ KW r)) := Lib.hid (by
                rw [htell0]
                exact List.map_congr_left fun r _ => by rw [cliqueJ_same (fun x y => HEffW.out.con x y) r])
              have HXl : Hid (xs.length = N) := Lib.hid HNx.out.symm
              have HRl : Hid (R.length = N) := Lib.hid (by
                have := congrArg List.length htell0
                unfold tellL at this
                rw [List.length_map, List.length_map] at this
                rw [← this, HXl.out])
              have HKWl : Hid (KW.length ≤ 1000) := Lib.hid (by have := HEffW.out.few; have := HLen00.out; omega)
              have HUp : Hid (∀ U, Turned (fun j => j = b12) wD U → PairR U aoW KW ∧ U.cell? ⟨b8, 0, none⟩ = some (.slice aoW KW.length capW)) := Lib.hid (fun U hU => ⟨HRowD.out.turned hU (HRowD.out.box HX12D.out (fun m h => by cases h)), hU.cell (a := ⟨b8, 0, none⟩) HL12.out.2.2.2.2 (cell_in HX8D.out rfl)⟩)
              have HCl : Hid (∀ (r : Nat) (U : World), PairR U aoW KW → Calls Try.prog 10 #[.slice aoW KW.length capW, .int .u32 (r : Int)] U fun e w' => ∃ a9 c9, e = .returned (.slice a9 (cliqueJ KW r).length c9) ∧ ElR keyU w' a9 (cliqueJ KW r) ∧ Below U.heap.size U w') := Lib.hid (fun r U hU => refClique_any (cap := capW) r hU HKWl.out HEffW.out.nz)
              have HEq : Hid (∀ (M : List Nat) (ao bo : Option Addr) (ca cb : Nat) (U : World), M.length ≤ 1000000000 → NumsR U ao M → ElR keyU U bo M → Calls Try.prog 12 #[.slice ao M.length ca, .slice bo M.length cb] U fun e w' => e = .returned (.bool true) ∧ Below U.heap.size U w') := Lib.hid (fun M ao bo ca cb U hM h1 h2 => by
                refine (equal_any (ca := ca) (cb := cb) h1 (show NumsR U bo M from h2) hM).mono ?_
                rintro e w' ⟨rfl, h⟩
                exact ⟨by simp, h⟩)
              have hx12 := HX12D.out
              have HSq : Hid _ := Lib.hid (all_seq (9 - 1) (by omega) ab ao cap xs (by rw [HXl.out]; omega) (fun _ => False) (fun j => j = b12) wD (fun j h => h.elim) (fun j hj => by rw [hj]; exact HL12.out.1))
              clear hfew htell0
              refine wpIn_rangeW (F := Fence.wide) (n := 9) rfl (by omega) (gf := 28) (lb := #[.pointer (some ⟨ab, 0, none⟩)]) rfl trivial (enters_of Try.func28 (by kernel_rfl) rfl) HSq.out (Below.refl _ _) (fun _ => rfl) ?ownT ?ownN
                (fun st S' Wx => Turned (fun j => j = b12) wD Wx ∧ (∃ m : Nat, m + st = N ∧ Wx.cell? ⟨b12, 0, none⟩ = some (.int .i64 (m : Int))) ∧ Wx.frozen? ⟨b12, 0, none⟩ = false) ?ownI (fun _ _ => False) ?ownX (fun j hj => by rw [hj]; exact HL12.out.1) (fun j hj => hj.elim)
                ⟨Turned.refl, ⟨N, by omega, cell_in hx12 rfl⟩, free_in hx12 0⟩ (HQU.out wD Turned.refl)
                (fun x a' _ => a' = { tmps := #[.slice ao0 k0 c0, .slice ao1 k1 c1, .slice ao2 k2 c2, undef, undef, undef, .pointer (some ⟨b6, 0, none⟩), unP pb, .pointer (some ⟨b8, 0, none⟩), .int .i64 (k0 : Int), unP qb, .func (.func 28) #[] #[.pointer (some ⟨ab, 0, none⟩)], .pointer (some ⟨b12, 0, none⟩), .slice aoX X.length capX, .slice aoY Y.length capY, .int .i64 (k1 : Int), .int .i64 (k2 : Int), .int .u32 (x.least : Int), .slice x.ao x.ns.length x.cap, .slice ao0 k0 c0, .int .i64 (k0 : Int), .bool false, .bool false, .slice ao1 k1 c1, .int .i64 (k1 : Int), .bool false, .bool false, .bool false, .slice ao2 k2 c2, .int .i64 (k2 : Int), .bool false, .bool false, undef, unP pb, .int .i64 (k0 : Int), .slice ao0 k0 c0, .int .i64 (k0 : Int), .bool false, u38, u39, u40, u41, u42, u43, u44, u45, u46, u47, u48, u49, u50, u51, u52, u53, u54, u55, u56, u57, u58, u59, u60, u61, u62, u63, u64, u65, u66, unP pb, unP qb, unP pb, .func (.func 28) #[] #[.pointer (some ⟨ab, 0, none⟩)], .func (.func 28) #[] #[.pointer (some ⟨ab, 0, none⟩)], .bool false, unP pb, .int .i64 (N : Int), .slice aoW KW.length capW, .slice aoW KW.length capW, .int .i64 (k1 : Int), .slice ao1 k1 c1, .int .i64 (k1 : Int), .bool false, u81, u82, u83, u84, u85, u86, u87, u88, u89, u90, u91, u92, u93, u94, u95, u96, u97, u98, u99, u100, u101, u102, u103, u104, u105, u106, u107, u108, u109, .int .i64 (k2 : Int), .slice ao2 k2 c2, .int .i64 (k2 : Int), .bool false, u114, u115, u116, u117, u118, u119, u120, u121, u122, u123, u124, u125, u126, u127, u128, u129, u130, u131, u132, u133, u134, u135, u136, u137, u138, u139, u140, u141, u142, .func (.func 28) #[] #[.pointer (some ⟨ab, 0, none⟩)], .int .u32 (x.least : Int), .slice x.ao x.ns.length x.cap, undef, undef, undef, undef, undef, undef, undef, undef, undef, undef, undef, undef, undef, undef, undef, undef, undef, undef, undef, undef, undef, undef, undef], defers := [] }) (fun _ _ _ _ _ _ _ hs _ _ => hs) ?assign ?body ?done ?stop
              case ownT => exact fun g st S' A C row hq hg hr => hq.own hg (fun r e => (hr r e).2)
              case ownN =>
                rintro st x st' _ S' A C row ⟨n1, n2, n3⟩ hg hr
                refine ⟨n1, n2, fun h0 => ?_⟩
                obtain ⟨g, o, e, hc⟩ := n3 h0
                exact ⟨g, o, e, fun j v hj => cell_kept (hc j v hj) hg (fun r e => (hr r e).2)⟩
              case ownI =>
                rintro st S' A C row ⟨h2, ⟨m, hm, h3⟩, h4⟩ hg hr
                exact ⟨⟨hg.os.trans h2.os, hg.tape.trans h2.tape, hg.output.trans h2.output, Nat.le_trans h2.size hg.size, fun j hj hn => (hg.block j (by have := h2.size; omega) (fun e => by have := (hr _ e.symm).1; omega)).trans (h2.block j hj hn)⟩, ⟨m, hm, cell_kept h3 hg (fun r e => (hr r e).2)⟩, (frozen_kept h3 hg (fun r e => (hr r e).2)).trans h4⟩
              case ownX => exact fun c st S' A C row h hg hr => h.elim
              case assign =>
                intro l x Wx Kx hle hKx
                dsimp only
                gi_wp2
                exact hKx _ _ (Below.refl _ _) rfl
              case body =>
                rintro l g st x st' S' a' Wx hl ⟨rr, hrr⟩ hSl ⟨h2, ⟨m, hm, h3⟩, h4⟩ hTx ⟨rfl, hLs, hNx⟩ rfl
                rw [HTell.out, List.getElem?_map] at hLs
                obtain ⟨r, hr, hrx⟩ := Option.map_eq_some_iff.1 hLs
                obtain ⟨xl, xns, xao, xcap⟩ := x
                dsimp only at *
                cases hrx
                have hstl : st < N := by rw [← HRl.out]; exact (List.getElem?_eq_some_iff.1 hr).1
                have m1 : 1 ≤ m := by omega
                have m2 : m ≤ 60 := by omega
                have m3 : (1 : Int) ≤ (m : Int) := by omega
                have m4 : (m : Int) ≤ 60 := by omega
                have HM : Hid ((Value.int .i64 ((m - 1 : Nat) : Int)) = .int .i64 ((m : Int) - 1)) := Lib.hid (congrArg (Value.int .i64) (by omega))
                have HM2 : Hid (m - 1 + (st + 1) = N) := Lib.hid (by omega)
                obtain ⟨hP1, x8⟩ := HUp.out Wx h2
                have HCx := Lib.hid (HCl.out r Wx hP1)
                have HMl : Hid ((cliqueJ KW r).length ≤ 1000000000) := Lib.hid (cliqueJ_few KW r HKWl.out)
                have HNx2 := Lib.hid hNx
                have HZ : Hid (∀ U, Below Wx.heap.size Wx U → U.cell? ⟨b12, 0, none⟩ = some (.int .i64 (m : Int)) ∧ U.frozen? ⟨b12, 0, none⟩ = false) := Lib.hid (fun U hU => by
                  have hk := hU.block b12 (World.block_lt_of_cell? _ _ h3)
                  exact ⟨(World.cell?_of_block (a := ⟨b12, 0, none⟩) hk).trans h3, by
                    unfold World.frozen? at h4 ⊢
                    dsimp only at h4 ⊢
                    rw [hk]
                    exact h4⟩)
                have H2 := Lib.hid h2
                clear hLs hr hNx hTx h2 hP1 hSl hm
                gi_wp2_with (first
                  | (refine ⟨trivial, ?_⟩; gi_at_call 10; refine (CallsIn.inRound l (callsIn_wide.2 HCx.out)).mono ?_; rintro e W3 ⟨a9, c9, rfl, hE9, hB9⟩; have HEq3 := Lib.hid (HEq.out (cliqueJ KW r) xao a9 xcap c9 W3 HMl.out (HNx2.out.below hB9) hE9); replace hB9 := Lib.hid hB9; clear hE9)
                  | (refine ⟨trivial, ?_⟩; gi_at_call 12; refine (CallsIn.inRound l (callsIn_wide.2 HEq3.out)).mono ?_; rintro e W4 ⟨rfl, hB4⟩; obtain ⟨z13, z14⟩ := HZ.out W4 (hB9.out.trans (hB4.mono hB9.out.size)); replace hB4 := Lib.hid hB4))
                have hB : Below Wx.heap.size Wx W4 := hB9.out.trans (hB4.out.mono hB9.out.size)
                have hTs : Turned (fun j => j = b12) Wx (W4.setCell ⟨b12, 0, none⟩ (.int .i64 ((m : Int) - 1))) := (Turned.of_below hB).trans (Turned.set (S := fun j => j = b12) (a := ⟨b12, 0, none⟩) rfl _)
                refine ⟨hTs.mono (fun j hj => .inr hj), fun _ => False, ⟨H2.out.trans hTs, ⟨m - 1, HM2.out, ?_⟩, ?_⟩, HQU.out _ (H2.out.trans hTs), fun j hj => hj.elim⟩
                · rw [HM.out]
                  exact World.cell?_setCell_same' _ _ _ (by rw [z13]; rfl)
                · rw [World.frozen?_setCell]
                  exact z14
              case done =>
                rintro D st S' Wx hD hdn ⟨h2, ⟨m, hm, h3⟩, h4⟩ hTx hSD hK2
                rw [hdn, HXl.out] at hm
                obtain rfl : m = 0 := by omega
                have h6 : Wx.heap[b6]? = some (.cells #[.bool false] 4 (0, 0)) := (h2.block b6 (Array.getElem?_eq_some_iff.1 HX6D.out).1 HL12.out.2.2.2.1).trans HX6D.out
                have HK2 := Lib.hid hK2
                have H2 := Lib.hid h2
                have H6 := Lib.hid h6
                have HSm : Hid (∀ (pq : Nat) (J K : List (Nat × Nat)) (aoK : Option Addr) (capK : Nat) (U : World), Eff J K → PairR wD aoK K → J.length ≤ 60 → (∃ Sx, UnI wD Sx pq J ∧ ¬ Sx b12) → Turned (fun j => j = b12) wD U → Calls Try.prog 11 #[unP pq, .slice aoK K.length capK] U fun e w' => e = .returned (.bool true) ∧ Turned (fun j => j = b12) wD w' ∧ Below U.heap.size U w') := Lib.hid (fun pq J K aoK capK U hE hP hJ hS hU => by
                  obtain ⟨Sx, h8, h9⟩ := hS
                  refine (same_any (cap := capK) (h8.beside hU (fun j hj e => h9 (e ▸ hj))) hE (hP.turned hU (hP.box HX12D.out (fun m h => by cases h))) hJ).mono ?_
                  rintro e w' ⟨rfl, hb⟩
                  exact ⟨rfl, hU.trans (Turned.of_below hb), hb⟩)
                have hlX : (l0 ++ l1).length ≤ 60 := by rw [List.length_append]; have := HLen00.out; have := HN1k.out; have := HL11.out; omega
                have hlY : (l0 ++ l2).length ≤ 60 := by rw [List.length_append]; have := HLen00.out; have := HN2k.out; have := HL22.out; omega
                have HS1 := Lib.hid (HSm.out pb (l0 ++ l1) X aoX capX Wx HEffX.out HXrow.out hlX HXD.out h2)
                have HS2 : Hid (∀ U, Turned (fun j => j = b12) wD U → Calls Try.prog 11 #[unP qb, .slice aoY Y.length capY] U fun e w' => e = .returned (.bool true) ∧ Turned (fun j => j = b12) wD w' ∧ Below U.heap.size U w') := Lib.hid (fun U hU => HSm.out qb (l0 ++ l2) Y aoY capY U HEffY.out HYrow.out hlY HYD.out hU)
                clear hK2 h2 h6 hTx hSD hm hdn hlX hlY HSm
                go_wp2_with (first
                  | (go_at_call 11; (with_reducible refine HS1.out.mono ?_); rintro e y1 ⟨rfl, ht1, hb1⟩; replace ht1 := Lib.hid ht1; replace hb1 := Lib.hid hb1)
                  | (go_at_call 11; (with_reducible refine (HS2.out _ ht1.out).mono ?_); rintro e y2 ⟨rfl, ht2, hb2⟩; replace ht2 := Lib.hid ht2; replace hb2 := Lib.hid hb2)
                  | (go_at_call 6; (with_reducible refine (HK.out _).mono ?_); rintro e y3 ⟨rfl, hb3⟩; have h6y := (hb3.block b6 (Nat.lt_of_lt_of_le (Array.getElem?_eq_some_iff.1 H6.out).1 (Nat.le_trans hb1.out.size hb2.out.size))).trans ((hb2.out.block b6 (Nat.lt_of_lt_of_le (Array.getElem?_eq_some_iff.1 H6.out).1 hb1.out.size)).trans ((hb1.out.block b6 (Array.getElem?_eq_some_iff.1 H6.out).1).trans H6.out)); have x6 := cell_in (j := 0) h6y rfl; have f6 := free_in h6y 0; replace h6y := Lib.hid h6y; replace hb3 := Lib.hid hb3))
                have hB : Below Wx.heap.size Wx y3 := hb1.out.trans ((hb2.out.mono hb1.out.size).trans (hb3.out.mono (Nat.le_trans hb1.out.size hb2.out.size)))
                have hD6 : D ≠ b6 := fun e => by have := (Array.getElem?_eq_some_iff.1 HX6D.out).1; omega
                have k2 : (y3.setCell ⟨b6, 0, none⟩ (.bool true)).heap[D]? = some (.deferred (some [])) := (Below.heap_setCell _ _ _ _ hD6).trans ((hB.block D (Array.getElem?_eq_some_iff.1 HK2.out).1).trans HK2.out)
                have c0 := World.cell?_setCell_same' y3 ⟨b6, 0, none⟩ (.bool true) (by rw [x6]; rfl)
                have c1 := cell_kept c0 (grownBy_putObj' _ D (.deferred none)) (fun r e => by cases e; exact ⟨_, k2, rfl⟩)
                have hbw0 : Below w.heap.size w Wx := HBD.out.trans (H2.out.below HBD.out.size (fun j hj => by rw [hj]; exact HL12.out.2.1))
                have hbw : Below w.heap.size w y3 := hbw0.trans (hB.mono hbw0.size)
                have hbs := hbw.setCell (p := ⟨b6, 0, none⟩) HL12.out.2.2.1 (.bool true)
                have hbe := hbs.trans (grown_belowU (grownBy_putObj' _ D (.deferred none)) hbs.size (by have := HBD.out.size; omega))
                refine ⟨by simp, .inl ⟨_, _, rfl, run_takeDeferred k2, ?_⟩⟩
                refine ⟨.bool true, ?_, rfl, hbe⟩
                simp [results, Try.f5, go_sem, c1]
              case stop =>
                rintro D c Wx hD h hK2
                exact h.elim
            · skip
              have hkl : k < l2.length := by have := HN2.out; omega
              obtain ⟨x, hx⟩ : ∃ x, l2[k]? = some x := ⟨_, List.getElem?_eq_getElem hkl⟩
              have htk := take_snoc hx
              obtain ⟨g, o, hgo, hcell⟩ := HP2.out (by omega)
              subst hgo
              have hc0 := hcell k x hx
              obtain ⟨a, b⟩ := x
              dsimp only at hc0 htk
              have HCell : Hid (∀ U, Below w.heap.size w U → U.cell? ⟨g, o + k * 2, none⟩ = some (.int .u32 (a : Int)) ∧ U.cell? ⟨g, o + k * 2 + 1, none⟩ = some (.int .u32 (b : Int))) := Lib.hid (fun U hU => ⟨(hU.cell (p := ⟨g, o + k * 2, none⟩) (World.block_lt_of_cell? _ _ hc0.1)).trans hc0.1, (hU.cell (p := ⟨g, o + k * 2 + 1, none⟩) (World.block_lt_of_cell? _ _ hc0.2)).trans hc0.2⟩)
              have e4 : decide ((k : Int) < (n2 : Int)) = true := decide_eq_true (by omega)
              have j4 : k + 1 ≤ 1000000001 := by have := H30.out; omega
              have HTk : Hid (l0 ++ l2.take (k + 1) = (l0 ++ l2.take k) ++ [(a, b)]) := Lib.hid (by rw [htk]; simp)
              have hfew : (l0 ++ l2.take k).length ≤ 1000 := by simp only [List.length_append, List.length_take]; have := HN0.out; have := HN2.out; have := H30.out; omega
              have HJn : Hid (Calls Try.prog 8 #[unP qb, .int .u32 (a : Int), .int .u32 (b : Int)] wy.drew fun e w' => ∃ (r : Nat) (two : Bool), e = .returned (.tuple #[.int .u32 (r : Int), .bool two]) ∧ PlayI Tb (fun _ => False) (fun _ _ => False) w' qb (l0 ++ l2.take k) ((l0 ++ l2.take k) ++ [(a, b)]) aoK K ∧ Turned Tb wy w') := Lib.hid (by
                have hd := (Below.refl wy.heap.size wy).drew
                refine ((HPl.out.below hd).join hfew a b).mono ?_
                rintro e w' ⟨⟨r, two, rfl⟩, h1, h2⟩
                exact ⟨r, two, rfl, h1, (Turned.of_below hd).trans h2⟩)
              have HRj : Hid (∀ U, PlayI Tb (fun _ => False) (fun _ _ => False) U qb (l0 ++ l2.take k) ((l0 ++ l2.take k) ++ [(a, b)]) aoK K → Calls Try.prog 9 #[.slice aoK K.length capK, .int .u32 (a : Int), .int .u32 (b : Int)] U.drew fun e w' => ∃ (aoN : Option Addr) (capN : Nat) (two : Bool) (M : List (Nat × Nat)), e = .returned (.tuple #[.slice aoN M.length capN, .bool two]) ∧ PlayI Tb (fun _ => False) (fun _ _ => False) w' qb ((l0 ++ l2.take k) ++ [(a, b)]) ((l0 ++ l2.take k) ++ [(a, b)]) aoN M ∧ Below U.heap.size U w') := Lib.hid (fun U hU => by
                have hd := (Below.refl U.heap.size U).drew
                refine ((hU.below hd).ref hfew capK a b).mono ?_
                rintro e w' ⟨aoN, capN, two, M, rfl, h1, h2⟩
                exact ⟨aoN, capN, two, M, rfl, h1, hd.trans h2⟩)
              have ca := (HCell.out wy.drew HBe.out.drew).1
              have cb := (HCell.out wy.drew HBe.out.drew).2
              clear hc0 hcell hx htk hfew hkl
              go_upto_region 24 with fail
              refine wp_region_held_drew (S := fun W' : World => W'.cell? ⟨g, o + k * 2, none⟩ = some (.int .u32 (a : Int)) ∧ W'.cell? ⟨g, o + k * 2 + 1, none⟩ = some (.int .u32 (b : Int))) (by kernel_rfl) ⟨ca, cb⟩ (fun hHeld => ?_)
              refine wpAnyH_take (i := 0) (v := unP qb) rfl (by kernel_rfl) (by kernel_rfl) (by kernel_rfl) (fun _ _ _ h => h) (Or.inl ⟨by rfl, fun w hSw => by (try dsimp only at hSw); obtain ⟨hSw1, hSw2⟩ := hSw; go_simp⟩) hHeld ?_
              simp only [Act.put, List.setIfInBounds_toArray, List.set_cons_zero, List.set_cons_succ, List.getElem_toArray, List.getElem_cons_succ, List.getElem_cons_zero]
              refine wpAnyH_take (i := 1) (v := .slice (some ⟨g, o, none⟩) n2 c2) rfl (by kernel_rfl) (by kernel_rfl) (by kernel_rfl) (fun _ _ _ h => h) (Or.inl ⟨by rfl, fun w hSw => by (try dsimp only at hSw); obtain ⟨hSw1, hSw2⟩ := hSw; go_simp⟩) hHeld ?_
              simp only [Act.put, List.setIfInBounds_toArray, List.set_cons_zero, List.set_cons_succ, List.getElem_toArray, List.getElem_cons_succ, List.getElem_cons_zero]
              refine wpAnyH_take (i := 2) (v := .int .i64 (k : Int)) rfl (by kernel_rfl) (by kernel_rfl) (by kernel_rfl) (fun _ _ _ h => h) (Or.inl ⟨by rfl, fun w hSw => by (try dsimp only at hSw); obtain ⟨hSw1, hSw2⟩ := hSw; go_simp⟩) hHeld ?_
              simp only [Act.put, List.setIfInBounds_toArray, List.set_cons_zero, List.set_cons_succ, List.getElem_toArray, List.getElem_cons_succ, List.getElem_cons_zero]
              refine wpAnyH_take (i := 3) (v := .pointer (some ⟨g, o + k * 2, none⟩)) rfl (by kernel_rfl) (by kernel_rfl) (by kernel_rfl) (fun _ _ _ h => h) (Or.inl ⟨by rfl, fun w hSw => by (try dsimp only at hSw); obtain ⟨hSw1, hSw2⟩ := hSw; go_simp⟩) hHeld ?_
              simp only [Act.put, List.setIfInBounds_toArray, List.set_cons_zero, List.set_cons_succ, List.getElem_toArray, List.getElem_cons_succ, List.getElem_cons_zero]
              refine wpAnyH_take (i := 4) (v := .pointer (some ⟨g, o + k * 2, none⟩)) rfl (by kernel_rfl) (by kernel_rfl) (by kernel_rfl) (fun _ _ _ h => h) (Or.inl ⟨by rfl, fun w hSw => by (try dsimp only at hSw); obtain ⟨hSw1, hSw2⟩ := hSw; go_simp⟩) hHeld ?_
              simp only [Act.put, List.setIfInBounds_toArray, List.set_cons_zero, List.set_cons_succ, List.getElem_toArray, List.getElem_cons_succ, List.getElem_cons_zero]
              refine wpAnyH_take (i := 5) (v := .int .u32 (a : Int)) rfl (by kernel_rfl) (by kernel_rfl) (by kernel_rfl) (fun _ _ _ h => h) (Or.inl ⟨by rfl, fun w hSw => by (try dsimp only at hSw); obtain ⟨hSw1, hSw2⟩ := hSw; go_simp⟩) hHeld ?_
              simp only [Act.put, List.setIfInBounds_toArray, List.set_cons_zero, List.set_cons_succ, List.getElem_toArray, List.getElem_cons_succ, List.getElem_cons_zero]
              refine wpAnyH_take (i := 6) (v := .slice (some ⟨g, o, none⟩) n2 c2) rfl (by kernel_rfl) (by kernel_rfl) (by kernel_rfl) (fun _ _ _ h => h) (Or.inl ⟨by rfl, fun w hSw => by (try dsimp only at hSw); obtain ⟨hSw1, hSw2⟩ := hSw; go_simp⟩) hHeld ?_
              simp only [Act.put, List.setIfInBounds_toArray, List.set_cons_zero, List.set_cons_succ, List.getElem_toArray, List.getElem_cons_succ, List.getElem_cons_zero]
              refine wpAnyH_take (i := 7) (v := .int .i64 (k : Int)) rfl (by kernel_rfl) (by kernel_rfl) (by kernel_rfl) (fun _ _ _ h => h) (Or.inl ⟨by rfl, fun w hSw => by (try dsimp only at hSw); obtain ⟨hSw1, hSw2⟩ := hSw; go_simp⟩) hHeld ?_
              simp only [Act.put, List.setIfInBounds_toArray, List.set_cons_zero, List.set_cons_succ, List.getElem_toArray, List.getElem_cons_succ, List.getElem_cons_zero]
              refine wpAnyH_take (i := 8) (v := .pointer (some ⟨g, o + k * 2, none⟩)) rfl (by kernel_rfl) (by kernel_rfl) (by kernel_rfl) (fun _ _ _ h => h) (Or.inl ⟨by rfl, fun w hSw => by (try dsimp only at hSw); obtain ⟨hSw1, hSw2⟩ := hSw; go_simp⟩) hHeld ?_
              simp only [Act.put, List.setIfInBounds_toArray, List.set_cons_zero, List.set_cons_succ, List.getElem_toArray, List.getElem_cons_succ, List.getElem_cons_zero]
              refine wpAnyH_take (i := 9) (v := .pointer (some ⟨g, o + k * 2 + 1, none⟩)) rfl (by kernel_rfl) (by kernel_rfl) (by kernel_rfl) (fun _ _ _ h => h) (Or.inl ⟨by rfl, fun w hSw => by (try dsimp only at hSw); obtain ⟨hSw1, hSw2⟩ := hSw; go_simp⟩) hHeld ?_
              simp only [Act.put, List.setIfInBounds_toArray, List.set_cons_zero, List.set_cons_succ, List.getElem_toArray, List.getElem_cons_succ, List.getElem_cons_zero]
              refine wpAnyH_take (i := 10) (v := .int .u32 (b : Int)) rfl (by kernel_rfl) (by kernel_rfl) (by kernel_rfl) (fun _ _ _ h => h) (Or.inl ⟨by rfl, fun w hSw => by (try dsimp only at hSw); obtain ⟨hSw1, hSw2⟩ := hSw; go_simp⟩) hHeld ?_
              simp only [Act.put, List.setIfInBounds_toArray, List.set_cons_zero, List.set_cons_succ, List.getElem_toArray, List.getElem_cons_succ, List.getElem_cons_zero]
              refine wpAnyH_ready (rs := [11]) (by kernel_rfl) (by simp) ?_
              refine AllReadyH.cons rfl (fun K hK => ?_) AllReadyH.nil
              go_simp
              refine HJn.out.mono ?_
              rintro e wz ⟨r, two, rfl, hpj, htz⟩
              dsimp only
              have HPj := Lib.hid hpj
              have hbz : Below w.heap.size w wz := HBe.out.trans (htz.below HBe.out.size HLowTb.out)
              have HTz := Lib.hid (HTur.out.trans htz)
              have HBz := Lib.hid hbz
              have ca2 := (HCell.out wz hbz).1
              have cb2 := (HCell.out wz hbz).2
              refine hK.out _ _ ⟨ca2, cb2⟩ (fun hHeld => ?_)
              clear hpj htz hbz ca cb
              clear hK K
              (try simp only [Act.put, List.setIfInBounds_toArray, List.set_cons_zero, List.set_cons_succ, List.getElem_toArray, List.getElem_cons_succ, List.getElem_cons_zero])
              refine wpAnyH_done (by kernel_rfl) ?_ _
              clear hHeld
              have ca := (HCell.out wz.drew HBz.out.drew).1
              have cb := (HCell.out wz.drew HBz.out.drew).2
              clear ca2 cb2
              go_upto_region 25 with fail
              refine wp_region_held_drew (S := fun W' : World => W'.cell? ⟨g, o + k * 2, none⟩ = some (.int .u32 (a : Int)) ∧ W'.cell? ⟨g, o + k * 2 + 1, none⟩ = some (.int .u32 (b : Int))) (by kernel_rfl) ⟨ca, cb⟩ (fun hHeld => ?_)
              refine wpAnyH_take (i := 0) (v := .slice aoK K.length capK) rfl (by kernel_rfl) (by kernel_rfl) (by kernel_rfl) (fun _ _ _ h => h) (Or.inl ⟨by rfl, fun w hSw => by (try dsimp only at hSw); obtain ⟨hSw1, hSw2⟩ := hSw; go_simp⟩) hHeld ?_
              simp only [Act.put, List.setIfInBounds_toArray, List.set_cons_zero, List.set_cons_succ, List.getElem_toArray, List.getElem_cons_succ, List.getElem_cons_zero]
              refine wpAnyH_take (i := 1) (v := .slice (some ⟨g, o, none⟩) n2 c2) rfl (by kernel_rfl) (by kernel_rfl) (by kernel_rfl) (fun _ _ _ h => h) (Or.inl ⟨by rfl, fun w hSw => by (try dsimp only at hSw); obtain ⟨hSw1, hSw2⟩ := hSw; go_simp⟩) hHeld ?_
              simp only [Act.put, List.setIfInBounds_toArray, List.set_cons_zero, List.set_cons_succ, List.getElem_toArray, List.getElem_cons_succ, List.getElem_cons_zero]
              refine wpAnyH_take (i := 2) (v := .int .i64 (k : Int)) rfl (by kernel_rfl) (by kernel_rfl) (by kernel_rfl) (fun _ _ _ h => h) (Or.inl ⟨by rfl, fun w hSw => by (try dsimp only at hSw); obtain ⟨hSw1, hSw2⟩ := hSw; go_simp⟩) hHeld ?_
              simp only [Act.put, List.setIfInBounds_toArray, List.set_cons_zero, List.set_cons_succ, List.getElem_toArray, List.getElem_cons_succ, List.getElem_cons_zero]
              refine wpAnyH_take (i := 3) (v := .pointer (some ⟨g, o + k * 2, none⟩)) rfl (by kernel_rfl) (by kernel_rfl) (by kernel_rfl) (fun _ _ _ h => h) (Or.inl ⟨by rfl, fun w hSw => by (try dsimp only at hSw); obtain ⟨hSw1, hSw2⟩ := hSw; go_simp⟩) hHeld ?_
              simp only [Act.put, List.setIfInBounds_toArray, List.set_cons_zero, List.set_cons_succ, List.getElem_toArray, List.getElem_cons_succ, List.getElem_cons_zero]
              refine wpAnyH_take (i := 4) (v := .pointer (some ⟨g, o + k * 2, none⟩)) rfl (by kernel_rfl) (by kernel_rfl) (by kernel_rfl) (fun _ _ _ h => h) (Or.inl ⟨by rfl, fun w hSw => by (try dsimp only at hSw); obtain ⟨hSw1, hSw2⟩ := hSw; go_simp⟩) hHeld ?_
              simp only [Act.put, List.setIfInBounds_toArray, List.set_cons_zero, List.set_cons_succ, List.getElem_toArray, List.getElem_cons_succ, List.getElem_cons_zero]
              refine wpAnyH_take (i := 5) (v := .int .u32 (a : Int)) rfl (by kernel_rfl) (by kernel_rfl) (by kernel_rfl) (fun _ _ _ h => h) (Or.inl ⟨by rfl, fun w hSw => by (try dsimp only at hSw); obtain ⟨hSw1, hSw2⟩ := hSw; go_simp⟩) hHeld ?_
              simp only [Act.put, List.setIfInBounds_toArray, List.set_cons_zero, List.set_cons_succ, List.getElem_toArray, List.getElem_cons_succ, List.getElem_cons_zero]
              refine wpAnyH_take (i := 6) (v := .slice (some ⟨g, o, none⟩) n2 c2) rfl (by kernel_rfl) (by kernel_rfl) (by kernel_rfl) (fun _ _ _ h => h) (Or.inl ⟨by rfl, fun w hSw => by (try dsimp only at hSw); obtain ⟨hSw1, hSw2⟩ := hSw; go_simp⟩) hHeld ?_
              simp only [Act.put, List.setIfInBounds_toArray, List.set_cons_zero, List.set_cons_succ, List.getElem_toArray, List.getElem_cons_succ, List.getElem_cons_zero]
              refine wpAnyH_take (i := 7) (v := .int .i64 (k : Int)) rfl (by kernel_rfl) (by kernel_rfl) (by kernel_rfl) (fun _ _ _ h => h) (Or.inl ⟨by rfl, fun w hSw => by (try dsimp only at hSw); obtain ⟨hSw1, hSw2⟩ := hSw; go_simp⟩) hHeld ?_
              simp only [Act.put, List.setIfInBounds_toArray, List.set_cons_zero, List.set_cons_succ, List.getElem_toArray, List.getElem_cons_succ, List.getElem_cons_zero]
              refine wpAnyH_take (i := 8) (v := .pointer (some ⟨g, o + k * 2, none⟩)) rfl (by kernel_rfl) (by kernel_rfl) (by kernel_rfl) (fun _ _ _ h => h) (Or.inl ⟨by rfl, fun w hSw => by (try dsimp only at hSw); obtain ⟨hSw1, hSw2⟩ := hSw; go_simp⟩) hHeld ?_
              simp only [Act.put, List.setIfInBounds_toArray, List.set_cons_zero, List.set_cons_succ, List.getElem_toArray, List.getElem_cons_succ, List.getElem_cons_zero]
              refine wpAnyH_take (i := 9) (v := .pointer (some ⟨g, o + k * 2 + 1, none⟩)) rfl (by kernel_rfl) (by kernel_rfl) (by kernel_rfl) (fun _ _ _ h => h) (Or.inl ⟨by rfl, fun w hSw => by (try dsimp only at hSw); obtain ⟨hSw1, hSw2⟩ := hSw; go_simp⟩) hHeld ?_
              simp only [Act.put, List.setIfInBounds_toArray, List.set_cons_zero, List.set_cons_succ, List.getElem_toArray, List.getElem_cons_succ, List.getElem_cons_zero]
              refine wpAnyH_take (i := 10) (v := .int .u32 (b : Int)) rfl (by kernel_rfl) (by kernel_rfl) (by kernel_rfl) (fun _ _ _ h => h) (Or.inl ⟨by rfl, fun w hSw => by (try dsimp only at hSw); obtain ⟨hSw1, hSw2⟩ := hSw; go_simp⟩) hHeld ?_
              simp only [Act.put, List.setIfInBounds_toArray, List.set_cons_zero, List.set_cons_succ, List.getElem_toArray, List.getElem_cons_succ, List.getElem_cons_zero]
              refine wpAnyH_ready (rs := [11]) (by kernel_rfl) (by simp) ?_
              refine AllReadyH.cons rfl (fun K hK => ?_) AllReadyH.nil
              go_simp
              refine (HRj.out wz HPj.out).mono ?_
              rintro e ws ⟨aoN, capN, two2, M, rfl, hpr, hbr⟩
              dsimp only
              have HPr := Lib.hid hpr
              have HBr := Lib.hid (HBz.out.trans (hbr.mono HBz.out.size))
              have HTr := Lib.hid (HTz.out.trans (Turned.of_below hbr))
              refine hK.out _ _ (HCell.out ws HBr.out) (fun hHeld => ?_)
              clear hpr hbr ca cb
              clear hK K
              (try simp only [Act.put, List.setIfInBounds_toArray, List.set_cons_zero, List.set_cons_succ, List.getElem_toArray, List.getElem_cons_succ, List.getElem_cons_zero])
              refine wpAnyH_take (i := 12) (v := .tuple #[.slice aoN M.length capN, .bool two2]) rfl (by kernel_rfl) (by kernel_rfl) (by kernel_rfl) (fun _ _ _ h => h) (Or.inl ⟨by rfl, fun w hSw => by (try dsimp only at hSw); obtain ⟨hSw1, hSw2⟩ := hSw; go_simp⟩) hHeld ?_
              simp only [Act.put, List.setIfInBounds_toArray, List.set_cons_zero, List.set_cons_succ, List.getElem_toArray, List.getElem_cons_succ, List.getElem_cons_zero]
              refine wpAnyH_take (i := 13) (v := .slice aoN M.length capN) rfl (by kernel_rfl) (by kernel_rfl) (by kernel_rfl) (fun _ _ _ h => h) (Or.inl ⟨by rfl, fun w hSw => by (try dsimp only at hSw); obtain ⟨hSw1, hSw2⟩ := hSw; go_simp⟩) hHeld ?_
              simp only [Act.put, List.setIfInBounds_toArray, List.set_cons_zero, List.set_cons_succ, List.getElem_toArray, List.getElem_cons_succ, List.getElem_cons_zero]
              refine wpAnyH_take (i := 14) (v := .bool two2) rfl (by kernel_rfl) (by kernel_rfl) (by kernel_rfl) (fun _ _ _ h => h) (Or.inl ⟨by rfl, fun w hSw => by (try dsimp only at hSw); obtain ⟨hSw1, hSw2⟩ := hSw; go_simp⟩) hHeld ?_
              simp only [Act.put, List.setIfInBounds_toArray, List.set_cons_zero, List.set_cons_succ, List.getElem_toArray, List.getElem_cons_succ, List.getElem_cons_zero]
              refine wpAnyH_take (i := 15) (v := .slice aoN M.length capN) rfl (by kernel_rfl) (by kernel_rfl) (by kernel_rfl) (fun _ _ _ h => h) (Or.inl ⟨by rfl, fun w hSw => by (try dsimp only at hSw); obtain ⟨hSw1, hSw2⟩ := hSw; go_simp⟩) hHeld ?_
              simp only [Act.put, List.setIfInBounds_toArray, List.set_cons_zero, List.set_cons_succ, List.getElem_toArray, List.getElem_cons_succ, List.getElem_cons_zero]
              refine wpAnyH_done (by kernel_rfl) ?_ _
              clear hHeld
              go_wp2
              go_roundg (n2 - (k + 1))
              case measure => omega
              case rel => exact ⟨k + 1, M, aoN, capN, by omega, by omega, by go_num, rfl, HBr.out, HTr.out, by rw [HTk.out]; exact HPr.out⟩
        · skip
          have hkl : k < l1.length := by have := HN1.out; omega
          obtain ⟨x, hx⟩ : ∃ x, l1[k]? = some x := ⟨_, List.getElem?_eq_getElem hkl⟩
          have htk := take_snoc hx
          obtain ⟨g, o, hgo, hcell⟩ := HP1.out (by omega)
          subst hgo
          have hc0 := hcell k x hx
          obtain ⟨a, b⟩ := x
          dsimp only at hc0 htk
          have HCell : Hid (∀ U, Below w.heap.size w U → U.cell? ⟨g, o + k * 2, none⟩ = some (.int .u32 (a : Int)) ∧ U.cell? ⟨g, o + k * 2 + 1, none⟩ = some (.int .u32 (b : Int))) := Lib.hid (fun U hU => ⟨(hU.cell (p := ⟨g, o + k * 2, none⟩) (World.block_lt_of_cell? _ _ hc0.1)).trans hc0.1, (hU.cell (p := ⟨g, o + k * 2 + 1, none⟩) (World.block_lt_of_cell? _ _ hc0.2)).trans hc0.2⟩)
          have e4 : decide ((k : Int) < (n1 : Int)) = true := decide_eq_true (by omega)
          have j4 : k + 1 ≤ 1000000001 := by have := H30.out; omega
          have HTk : Hid (l0 ++ l1.take (k + 1) = (l0 ++ l1.take k) ++ [(a, b)]) := Lib.hid (by rw [htk]; simp)
          have hfew : (l0 ++ l1.take k).length ≤ 1000 := by simp only [List.length_append, List.length_take]; have := HN0.out; have := HN1.out; have := H30.out; omega
          have HJn : Hid (Calls Try.prog 8 #[unP pb, .int .u32 (a : Int), .int .u32 (b : Int)] wy.drew fun e w' => ∃ (r : Nat) (two : Bool), e = .returned (.tuple #[.int .u32 (r : Int), .bool two]) ∧ PlayI Ta Va P w' pb (l0 ++ l1.take k) ((l0 ++ l1.take k) ++ [(a, b)]) aoK K ∧ Turned Ta wy w') := Lib.hid (by
            have hd := (Below.refl wy.heap.size wy).drew
            refine ((HPl.out.below hd).join hfew a b).mono ?_
            rintro e w' ⟨⟨r, two, rfl⟩, h1, h2⟩
            exact ⟨r, two, rfl, h1, (Turned.of_below hd).trans h2⟩)
          have HRj : Hid (∀ U, PlayI Ta Va P U pb (l0 ++ l1.take k) ((l0 ++ l1.take k) ++ [(a, b)]) aoK K → Calls Try.prog 9 #[.slice aoK K.length capK, .int .u32 (a : Int), .int .u32 (b : Int)] U.drew fun e w' => ∃ (aoN : Option Addr) (capN : Nat) (two : Bool) (M : List (Nat × Nat)), e = .returned (.tuple #[.slice aoN M.length capN, .bool two]) ∧ PlayI Ta Va P w' pb ((l0 ++ l1.take k) ++ [(a, b)]) ((l0 ++ l1.take k) ++ [(a, b)]) aoN M ∧ Below U.heap.size U w') := Lib.hid (fun U hU => by
            have hd := (Below.refl U.heap.size U).drew
            refine ((hU.below hd).ref hfew capK a b).mono ?_
            rintro e w' ⟨aoN, capN, two, M, rfl, h1, h2⟩
            exact ⟨aoN, capN, two, M, rfl, h1, hd.trans h2⟩)
          have ca := (HCell.out wy.drew HBe.out.drew).1
          have cb := (HCell.out wy.drew HBe.out.drew).2
          clear hc0 hcell hx htk hfew hkl
          go_upto_region 19 with fail
          refine wp_region_held_drew (S := fun W' : World => W'.cell? ⟨g, o + k * 2, none⟩ = some (.int .u32 (a : Int)) ∧ W'.cell? ⟨g, o + k * 2 + 1, none⟩ = some (.int .u32 (b : Int))) (by kernel_rfl) ⟨ca, cb⟩ (fun hHeld => ?_)
          refine wpAnyH_take (i := 0) (v := unP pb) rfl (by kernel_rfl) (by kernel_rfl) (by kernel_rfl) (fun _ _ _ h => h) (Or.inl ⟨by rfl, fun w hSw => by (try dsimp only at hSw); obtain ⟨hSw1, hSw2⟩ := hSw; go_simp⟩) hHeld ?_
          simp only [Act.put, List.setIfInBounds_toArray, List.set_cons_zero, List.set_cons_succ, List.getElem_toArray, List.getElem_cons_succ, List.getElem_cons_zero]
          refine wpAnyH_take (i := 1) (v := .slice (some ⟨g, o, none⟩) n1 c1) rfl (by kernel_rfl) (by kernel_rfl) (by kernel_rfl) (fun _ _ _ h => h) (Or.inl ⟨by rfl, fun w hSw => by (try dsimp only at hSw); obtain ⟨hSw1, hSw2⟩ := hSw; go_simp⟩) hHeld ?_
          simp only [Act.put, List.setIfInBounds_toArray, List.set_cons_zero, List.set_cons_succ, List.getElem_toArray, List.getElem_cons_succ, List.getElem_cons_zero]
          refine wpAnyH_take (i := 2) (v := .int .i64 (k : Int)) rfl (by kernel_rfl) (by kernel_rfl) (by kernel_rfl) (fun _ _ _ h => h) (Or.inl ⟨by rfl, fun w hSw => by (try dsimp only at hSw); obtain ⟨hSw1, hSw2⟩ := hSw; go_simp⟩) hHeld ?_
          simp only [Act.put, List.setIfInBounds_toArray, List.set_cons_zero, List.set_cons_succ, List.getElem_toArray, List.getElem_cons_succ, List.getElem_cons_zero]
          refine wpAnyH_take (i := 3) (v := .pointer (some ⟨g, o + k * 2, none⟩)) rfl (by kernel_rfl) (by kernel_rfl) (by kernel_rfl) (fun _ _ _ h => h) (Or.inl ⟨by rfl, fun w hSw => by (try dsimp only at hSw); obtain ⟨hSw1, hSw2⟩ := hSw; go_simp⟩) hHeld ?_
          simp only [Act.put, List.setIfInBounds_toArray, List.set_cons_zero, List.set_cons_succ, List.getElem_toArray, List.getElem_cons_succ, List.getElem_cons_zero]
          refine wpAnyH_take (i := 4) (v := .pointer (some ⟨g, o + k * 2, none⟩)) rfl (by kernel_rfl) (by kernel_rfl) (by kernel_rfl) (fun _ _ _ h => h) (Or.inl ⟨by rfl, fun w hSw => by (try dsimp only at hSw); obtain ⟨hSw1, hSw2⟩ := hSw; go_simp⟩) hHeld ?_
          simp only [Act.put, List.setIfInBounds_toArray, List.set_cons_zero, List.set_cons_succ, List.getElem_toArray, List.getElem_cons_succ, List.getElem_cons_zero]
          refine wpAnyH_take (i := 5) (v := .int .u32 (a : Int)) rfl (by kernel_rfl) (by kernel_rfl) (by kernel_rfl) (fun _ _ _ h => h) (Or.inl ⟨by rfl, fun w hSw => by (try dsimp only at hSw); obtain ⟨hSw1, hSw2⟩ := hSw; go_simp⟩) hHeld ?_
          simp only [Act.put, List.setIfInBounds_toArray, List.set_cons_zero, List.set_cons_succ, List.getElem_toArray, List.getElem_cons_succ, List.getElem_cons_zero]
          refine wpAnyH_take (i := 6) (v := .slice (some ⟨g, o, none⟩) n1 c1) rfl (by kernel_rfl) (by kernel_rfl) (by kernel_rfl) (fun _ _ _ h => h) (Or.inl ⟨by rfl, fun w hSw => by (try dsimp only at hSw); obtain ⟨hSw1, hSw2⟩ := hSw; go_simp⟩) hHeld ?_
          simp only [Act.put, List.setIfInBounds_toArray, List.set_cons_zero, List.set_cons_succ, List.getElem_toArray, List.getElem_cons_succ, List.getElem_cons_zero]
          refine wpAnyH_take (i := 7) (v := .int .i64 (k : Int)) rfl (by kernel_rfl) (by kernel_rfl) (by kernel_rfl) (fun _ _ _ h => h) (Or.inl ⟨by rfl, fun w hSw => by (try dsimp only at hSw); obtain ⟨hSw1, hSw2⟩ := hSw; go_simp⟩) hHeld ?_
          simp only [Act.put, List.setIfInBounds_toArray, List.set_cons_zero, List.set_cons_succ, List.getElem_toArray, List.getElem_cons_succ, List.getElem_cons_zero]
          refine wpAnyH_take (i := 8) (v := .pointer (some ⟨g, o + k * 2, none⟩)) rfl (by kernel_rfl) (by kernel_rfl) (by kernel_rfl) (fun _ _ _ h => h) (Or.inl ⟨by rfl, fun w hSw => by (try dsimp only at hSw); obtain ⟨hSw1, hSw2⟩ := hSw; go_simp⟩) hHeld ?_
          simp only [Act.put, List.setIfInBounds_toArray, List.set_cons_zero, List.set_cons_succ, List.getElem_toArray, List.getElem_cons_succ, List.getElem_cons_zero]
          refine wpAnyH_take (i := 9) (v := .pointer (some ⟨g, o + k * 2 + 1, none⟩)) rfl (by kernel_rfl) (by kernel_rfl) (by kernel_rfl) (fun _ _ _ h => h) (Or.inl ⟨by rfl, fun w hSw => by (try dsimp only at hSw); obtain ⟨hSw1, hSw2⟩ := hSw; go_simp⟩) hHeld ?_
          simp only [Act.put, List.setIfInBounds_toArray, List.set_cons_zero, List.set_cons_succ, List.getElem_toArray, List.getElem_cons_succ, List.getElem_cons_zero]
          refine wpAnyH_take (i := 10) (v := .int .u32 (b : Int)) rfl (by kernel_rfl) (by kernel_rfl) (by kernel_rfl) (fun _ _ _ h => h) (Or.inl ⟨by rfl, fun w hSw => by (try dsimp only at hSw); obtain ⟨hSw1, hSw2⟩ := hSw; go_simp⟩) hHeld ?_
          simp only [Act.put, List.setIfInBounds_toArray, List.set_cons_zero, List.set_cons_succ, List.getElem_toArray, List.getElem_cons_succ, List.getElem_cons_zero]
          refine wpAnyH_ready (rs := [11]) (by kernel_rfl) (by simp) ?_
          refine AllReadyH.cons rfl (fun K hK => ?_) AllReadyH.nil
          go_simp
          refine HJn.out.mono ?_
          rintro e wz ⟨r, two, rfl, hpj, htz⟩
          dsimp only
          have HPj := Lib.hid hpj
          have hbz : Below w.heap.size w wz := HBe.out.trans (htz.below HBe.out.size HLowTa.out)
          have HTz := Lib.hid (HTur.out.trans htz)
          have HBz := Lib.hid hbz
          have ca2 := (HCell.out wz hbz).1
          have cb2 := (HCell.out wz hbz).2
          refine hK.out _ _ ⟨ca2, cb2⟩ (fun hHeld => ?_)
          clear hpj htz hbz ca cb
          clear hK K
          (try simp only [Act.put, List.setIfInBounds_toArray, List.set_cons_zero, List.set_cons_succ, List.getElem_toArray, List.getElem_cons_succ, List.getElem_cons_zero])
          refine wpAnyH_done (by kernel_rfl) ?_ _
          clear hHeld
          have ca := (HCell.out wz.drew HBz.out.drew).1
          have cb := (HCell.out wz.drew HBz.out.drew).2
          clear ca2 cb2
          go_upto_region 20 with fail
          refine wp_region_held_drew (S := fun W' : World => W'.cell? ⟨g, o + k * 2, none⟩ = some (.int .u32 (a : Int)) ∧ W'.cell? ⟨g, o + k * 2 + 1, none⟩ = some (.int .u32 (b : Int))) (by kernel_rfl) ⟨ca, cb⟩ (fun hHeld => ?_)
          refine wpAnyH_take (i := 0) (v := .slice aoK K.length capK) rfl (by kernel_rfl) (by kernel_rfl) (by kernel_rfl) (fun _ _ _ h => h) (Or.inl ⟨by rfl, fun w hSw => by (try dsimp only at hSw); obtain ⟨hSw1, hSw2⟩ := hSw; go_simp⟩) hHeld ?_
          simp only [Act.put, List.setIfInBounds_toArray, List.set_cons_zero, List.set_cons_succ, List.getElem_toArray, List.getElem_cons_succ, List.getElem_cons_zero]
          refine wpAnyH_take (i := 1) (v := .slice (some ⟨g, o, none⟩) n1 c1) rfl (by kernel_rfl) (by kernel_rfl) (by kernel_rfl) (fun _ _ _ h => h) (Or.inl ⟨by rfl, fun w hSw => by (try dsimp only at hSw); obtain ⟨hSw1, hSw2⟩ := hSw; go_simp⟩) hHeld ?_
          simp only [Act.put, List.setIfInBounds_toArray, List.set_cons_zero, List.set_cons_succ, List.getElem_toArray, List.getElem_cons_succ, List.getElem_cons_zero]
          refine wpAnyH_take (i := 2) (v := .int .i64 (k : Int)) rfl (by kernel_rfl) (by kernel_rfl) (by kernel_rfl) (fun _ _ _ h => h) (Or.inl ⟨by rfl, fun w hSw => by (try dsimp only at hSw); obtain ⟨hSw1, hSw2⟩ := hSw; go_simp⟩) hHeld ?_
          simp only [Act.put, List.setIfInBounds_toArray, List.set_cons_zero, List.set_cons_succ, List.getElem_toArray, List.getElem_cons_succ, List.getElem_cons_zero]
          refine wpAnyH_take (i := 3) (v := .pointer (some ⟨g, o + k * 2, none⟩)) rfl (by kernel_rfl) (by kernel_rfl) (by kernel_rfl) (fun _ _ _ h => h) (Or.inl ⟨by rfl, fun w hSw => by (try dsimp only at hSw); obtain ⟨hSw1, hSw2⟩ := hSw; go_simp⟩) hHeld ?_
          simp only [Act.put, List.setIfInBounds_toArray, List.set_cons_zero, List.set_cons_succ, List.getElem_toArray, List.getElem_cons_succ, List.getElem_cons_zero]
          refine wpAnyH_take (i := 4) (v := .pointer (some ⟨g, o + k * 2, none⟩)) rfl (by kernel_rfl) (by kernel_rfl) (by kernel_rfl) (fun _ _ _ h => h) (Or.inl ⟨by rfl, fun w hSw => by (try dsimp only at hSw); obtain ⟨hSw1, hSw2⟩ := hSw; go_simp⟩) hHeld ?_
          simp only [Act.put, List.setIfInBounds_toArray, List.set_cons_zero, List.set_cons_succ, List.getElem_toArray, List.getElem_cons_succ, List.getElem_cons_zero]
          refine wpAnyH_take (i := 5) (v := .int .u32 (a : Int)) rfl (by kernel_rfl) (by kernel_rfl) (by kernel_rfl) (fun _ _ _ h => h) (Or.inl ⟨by rfl, fun w hSw => by (try dsimp only at hSw); obtain ⟨hSw1, hSw2⟩ := hSw; go_simp⟩) hHeld ?_
          simp only [Act.put, List.setIfInBounds_toArray, List.set_cons_zero, List.set_cons_succ, List.getElem_toArray, List.getElem_cons_succ, List.getElem_cons_zero]
          refine wpAnyH_take (i := 6) (v := .slice (some ⟨g, o, none⟩) n1 c1) rfl (by kernel_rfl) (by kernel_rfl) (by kernel_rfl) (fun _ _ _ h => h) (Or.inl ⟨by rfl, fun w hSw => by (try dsimp only at hSw); obtain ⟨hSw1, hSw2⟩ := hSw; go_simp⟩) hHeld ?_
          simp only [Act.put, List.setIfInBounds_toArray, List.set_cons_zero, List.set_cons_succ, List.getElem_toArray, List.getElem_cons_succ, List.getElem_cons_zero]
          refine wpAnyH_take (i := 7) (v := .int .i64 (k : Int)) rfl (by kernel_rfl) (by kernel_rfl) (by kernel_rfl) (fun _ _ _ h => h) (Or.inl ⟨by rfl, fun w hSw => by (try dsimp only at hSw); obtain ⟨hSw1, hSw2⟩ := hSw; go_simp⟩) hHeld ?_
          simp only [Act.put, List.setIfInBounds_toArray, List.set_cons_zero, List.set_cons_succ, List.getElem_toArray, List.getElem_cons_succ, List.getElem_cons_zero]
          refine wpAnyH_take (i := 8) (v := .pointer (some ⟨g, o + k * 2, none⟩)) rfl (by kernel_rfl) (by kernel_rfl) (by kernel_rfl) (fun _ _ _ h => h) (Or.inl ⟨by rfl, fun w hSw => by (try dsimp only at hSw); obtain ⟨hSw1, hSw2⟩ := hSw; go_simp⟩) hHeld ?_
          simp only [Act.put, List.setIfInBounds_toArray, List.set_cons_zero, List.set_cons_succ, List.getElem_toArray, List.getElem_cons_succ, List.getElem_cons_zero]
          refine wpAnyH_take (i := 9) (v := .pointer (some ⟨g, o + k * 2 + 1, none⟩)) rfl (by kernel_rfl) (by kernel_rfl) (by kernel_rfl) (fun _ _ _ h => h) (Or.inl ⟨by rfl, fun w hSw => by (try dsimp only at hSw); obtain ⟨hSw1, hSw2⟩ := hSw; go_simp⟩) hHeld ?_
          simp only [Act.put, List.setIfInBounds_toArray, List.set_cons_zero, List.set_cons_succ, List.getElem_toArray, List.getElem_cons_succ, List.getElem_cons_zero]
          refine wpAnyH_take (i := 10) (v := .int .u32 (b : Int)) rfl (by kernel_rfl) (by kernel_rfl) (by kernel_rfl) (fun _ _ _ h => h) (Or.inl ⟨by rfl, fun w hSw => by (try dsimp only at hSw); obtain ⟨hSw1, hSw2⟩ := hSw; go_simp⟩) hHeld ?_
          simp only [Act.put, List.setIfInBounds_toArray, List.set_cons_zero, List.set_cons_succ, List.getElem_toArray, List.getElem_cons_succ, List.getElem_cons_zero]
          refine wpAnyH_ready (rs := [11]) (by kernel_rfl) (by simp) ?_
          refine AllReadyH.cons rfl (fun K hK => ?_) AllReadyH.nil
          go_simp
          refine (HRj.out wz HPj.out).mono ?_
          rintro e ws ⟨aoN, capN, two2, M, rfl, hpr, hbr⟩
          dsimp only
          have HPr := Lib.hid hpr
          have HBr := Lib.hid (HBz.out.trans (hbr.mono HBz.out.size))
          have HTr := Lib.hid (HTz.out.trans (Turned.of_below hbr))
          refine hK.out _ _ (HCell.out ws HBr.out) (fun hHeld => ?_)
          clear hpr hbr ca cb
          clear hK K
          (try simp only [Act.put, List.setIfInBounds_toArray, List.set_cons_zero, List.set_cons_succ, List.getElem_toArray, List.getElem_cons_succ, List.getElem_cons_zero])
          refine wpAnyH_take (i := 12) (v := .tuple #[.slice aoN M.length capN, .bool two2]) rfl (by kernel_rfl) (by kernel_rfl) (by kernel_rfl) (fun _ _ _ h => h) (Or.inl ⟨by rfl, fun w hSw => by (try dsimp only at hSw); obtain ⟨hSw1, hSw2⟩ := hSw; go_simp⟩) hHeld ?_
          simp only [Act.put, List.setIfInBounds_toArray, List.set_cons_zero, List.set_cons_succ, List.getElem_toArray, List.getElem_cons_succ, List.getElem_cons_zero]
          refine wpAnyH_take (i := 13) (v := .slice aoN M.length capN) rfl (by kernel_rfl) (by kernel_rfl) (by kernel_rfl) (fun _ _ _ h => h) (Or.inl ⟨by rfl, fun w hSw => by (try dsimp only at hSw); obtain ⟨hSw1, hSw2⟩ := hSw; go_simp⟩) hHeld ?_
          simp only [Act.put, List.setIfInBounds_toArray, List.set_cons_zero, List.set_cons_succ, List.getElem_toArray, List.getElem_cons_succ, List.getElem_cons_zero]
          refine wpAnyH_take (i := 14) (v := .bool two2) rfl (by kernel_rfl) (by kernel_rfl) (by kernel_rfl) (fun _ _ _ h => h) (Or.inl ⟨by rfl, fun w hSw => by (try dsimp only at hSw); obtain ⟨hSw1, hSw2⟩ := hSw; go_simp⟩) hHeld ?_
          simp only [Act.put, List.setIfInBounds_toArray, List.set_cons_zero, List.set_cons_succ, List.getElem_toArray, List.getElem_cons_succ, List.getElem_cons_zero]
          refine wpAnyH_take (i := 15) (v := .slice aoN M.length capN) rfl (by kernel_rfl) (by kernel_rfl) (by kernel_rfl) (fun _ _ _ h => h) (Or.inl ⟨by rfl, fun w hSw => by (try dsimp only at hSw); obtain ⟨hSw1, hSw2⟩ := hSw; go_simp⟩) hHeld ?_
          simp only [Act.put, List.setIfInBounds_toArray, List.set_cons_zero, List.set_cons_succ, List.getElem_toArray, List.getElem_cons_succ, List.getElem_cons_zero]
          refine wpAnyH_done (by kernel_rfl) ?_ _
          clear hHeld
          go_wp2
          go_roundg (n1 - (k + 1))
          case measure => omega
          case rel => exact ⟨k + 1, M, aoN, capN, by omega, by omega, by go_num, rfl, HBr.out, HTr.out, by rw [HTk.out]; exact HPr.out⟩
    · skip
      have hkl : k < l0.length := by have := HN0.out; omega
      obtain ⟨x, hx⟩ : ∃ x, l0[k]? = some x := ⟨_, List.getElem?_eq_getElem hkl⟩
      have htk := take_snoc hx
      obtain ⟨g, o, hgo, hcell⟩ := HP0.out (by omega)
      subst hgo
      have hc0 := hcell k x hx
      obtain ⟨a, b⟩ := x
      dsimp only at hc0 htk
      have HCell : Hid (∀ U, Below w.heap.size w U → U.cell? ⟨g, o + k * 2, none⟩ = some (.int .u32 (a : Int)) ∧ U.cell? ⟨g, o + k * 2 + 1, none⟩ = some (.int .u32 (b : Int))) := Lib.hid (fun U hU => ⟨(hU.cell (p := ⟨g, o + k * 2, none⟩) (World.block_lt_of_cell? _ _ hc0.1)).trans hc0.1, (hU.cell (p := ⟨g, o + k * 2 + 1, none⟩) (World.block_lt_of_cell? _ _ hc0.2)).trans hc0.2⟩)
      have e4 : decide ((k : Int) < (n0 : Int)) = true := decide_eq_true (by omega)
      have j4 : k + 1 ≤ 1000000001 := by have := H30.out; omega
      have HTk : Hid (l0.take (k + 1) = (l0.take k) ++ [(a, b)]) := Lib.hid (by rw [htk])
      have hfew : (l0.take k).length ≤ 1000 := by simp only [List.length_append, List.length_take]; have := HN0.out; have := HN0.out; have := H30.out; omega
      have HJn : Hid (Calls Try.prog 8 #[unP pb, .int .u32 (a : Int), .int .u32 (b : Int)] wy.drew fun e w' => ∃ (r : Nat) (two : Bool), e = .returned (.tuple #[.int .u32 (r : Int), .bool two]) ∧ PlayI T1 (fun _ => False) (fun _ _ => False) w' pb (l0.take k) ((l0.take k) ++ [(a, b)]) aoK K ∧ Turned T1 wy w') := Lib.hid (by
        have hd := (Below.refl wy.heap.size wy).drew
        refine ((HPl.out.below hd).join hfew a b).mono ?_
        rintro e w' ⟨⟨r, two, rfl⟩, h1, h2⟩
        exact ⟨r, two, rfl, h1, (Turned.of_below hd).trans h2⟩)
      have HRj : Hid (∀ U, PlayI T1 (fun _ => False) (fun _ _ => False) U pb (l0.take k) ((l0.take k) ++ [(a, b)]) aoK K → Calls Try.prog 9 #[.slice aoK K.length capK, .int .u32 (a : Int), .int .u32 (b : Int)] U.drew fun e w' => ∃ (aoN : Option Addr) (capN : Nat) (two : Bool) (M : List (Nat × Nat)), e = .returned (.tuple #[.slice aoN M.length capN, .bool two]) ∧ PlayI T1 (fun _ => False) (fun _ _ => False) w' pb ((l0.take k) ++ [(a, b)]) ((l0.take k) ++ [(a, b)]) aoN M ∧ Below U.heap.size U w') := Lib.hid (fun U hU => by
        have hd := (Below.refl U.heap.size U).drew
        refine ((hU.below hd).ref hfew capK a b).mono ?_
        rintro e w' ⟨aoN, capN, two, M, rfl, h1, h2⟩
        exact ⟨aoN, capN, two, M, rfl, h1, hd.trans h2⟩)
      have ca := (HCell.out wy.drew HBe.out.drew).1
      have cb := (HCell.out wy.drew HBe.out.drew).2
      clear hc0 hcell hx htk hfew hkl
      go_upto_region 8 with fail
      refine wp_region_held_drew (S := fun W' : World => W'.cell? ⟨g, o + k * 2, none⟩ = some (.int .u32 (a : Int)) ∧ W'.cell? ⟨g, o + k * 2 + 1, none⟩ = some (.int .u32 (b : Int))) (by kernel_rfl) ⟨ca, cb⟩ (fun hHeld => ?_)
      refine wpAnyH_take (i := 0) (v := unP pb) rfl (by kernel_rfl) (by kernel_rfl) (by kernel_rfl) (fun _ _ _ h => h) (Or.inl ⟨by rfl, fun w hSw => by (try dsimp only at hSw); obtain ⟨hSw1, hSw2⟩ := hSw; go_simp⟩) hHeld ?_
      simp only [Act.put, List.setIfInBounds_toArray, List.set_cons_zero, List.set_cons_succ, List.getElem_toArray, List.getElem_cons_succ, List.getElem_cons_zero]
      refine wpAnyH_take (i := 1) (v := .slice (some ⟨g, o, none⟩) n0 c0) rfl (by kernel_rfl) (by kernel_rfl) (by kernel_rfl) (fun _ _ _ h => h) (Or.inl ⟨by rfl, fun w hSw => by (try dsimp only at hSw); obtain ⟨hSw1, hSw2⟩ := hSw; go_simp⟩) hHeld ?_
      simp only [Act.put, List.setIfInBounds_toArray, List.set_cons_zero, List.set_cons_succ, List.getElem_toArray, List.getElem_cons_succ, List.getElem_cons_zero]
      refine wpAnyH_take (i := 2) (v := .int .i64 (k : Int)) rfl (by kernel_rfl) (by kernel_rfl) (by kernel_rfl) (fun _ _ _ h => h) (Or.inl ⟨by rfl, fun w hSw => by (try dsimp only at hSw); obtain ⟨hSw1, hSw2⟩ := hSw; go_simp⟩) hHeld ?_
      simp only [Act.put, List.setIfInBounds_toArray, List.set_cons_zero, List.set_cons_succ, List.getElem_toArray, List.getElem_cons_succ, List.getElem_cons_zero]
      refine wpAnyH_take (i := 3) (v := .pointer (some ⟨g, o + k * 2, none⟩)) rfl (by kernel_rfl) (by kernel_rfl) (by kernel_rfl) (fun _ _ _ h => h) (Or.inl ⟨by rfl, fun w hSw => by (try dsimp only at hSw); obtain ⟨hSw1, hSw2⟩ := hSw; go_simp⟩) hHeld ?_
      simp only [Act.put, List.setIfInBounds_toArray, List.set_cons_zero, List.set_cons_succ, List.getElem_toArray, List.getElem_cons_succ, List.getElem_cons_zero]
      refine wpAnyH_take (i := 4) (v := .pointer (some ⟨g, o + k * 2, none⟩)) rfl (by kernel_rfl) (by kernel_rfl) (by kernel_rfl) (fun _ _ _ h => h) (Or.inl ⟨by rfl, fun w hSw => by (try dsimp only at hSw); obtain ⟨hSw1, hSw2⟩ := hSw; go_simp⟩) hHeld ?_
      simp only [Act.put, List.setIfInBounds_toArray, List.set_cons_zero, List.set_cons_succ, List.getElem_toArray, List.getElem_cons_succ, List.getElem_cons_zero]
      refine wpAnyH_take (i := 5) (v := .int .u32 (a : Int)) rfl (by kernel_rfl) (by kernel_rfl) (by kernel_rfl) (fun _ _ _ h => h) (Or.inl ⟨by rfl, fun w hSw => by (try dsimp only at hSw); obtain ⟨hSw1, hSw2⟩ := hSw; go_simp⟩) hHeld ?_
      simp only [Act.put, List.setIfInBounds_toArray, List.set_cons_zero, List.set_cons_succ, List.getElem_toArray, List.getElem_cons_succ, List.getElem_cons_zero]
      refine wpAnyH_take (i := 6) (v := .slice (some ⟨g, o, none⟩) n0 c0) rfl (by kernel_rfl) (by kernel_rfl) (by kernel_rfl) (fun _ _ _ h => h) (Or.inl ⟨by rfl, fun w hSw => by (try dsimp only at hSw); obtain ⟨hSw1, hSw2⟩ := hSw; go_simp⟩) hHeld ?_
      simp only [Act.put, List.setIfInBounds_toArray, List.set_cons_zero, List.set_cons_succ, List.getElem_toArray, List.getElem_cons_succ, List.getElem_cons_zero]
      refine wpAnyH_take (i := 7) (v := .int .i64 (k : Int)) rfl (by kernel_rfl) (by kernel_rfl) (by kernel_rfl) (fun _ _ _ h => h) (Or.inl ⟨by rfl, fun w hSw => by (try dsimp only at hSw); obtain ⟨hSw1, hSw2⟩ := hSw; go_simp⟩) hHeld ?_
      simp only [Act.put, List.setIfInBounds_toArray, List.set_cons_zero, List.set_cons_succ, List.getElem_toArray, List.getElem_cons_succ, List.getElem_cons_zero]
      refine wpAnyH_take (i := 8) (v := .pointer (some ⟨g, o + k * 2, none⟩)) rfl (by kernel_rfl) (by kernel_rfl) (by kernel_rfl) (fun _ _ _ h => h) (Or.inl ⟨by rfl, fun w hSw => by (try dsimp only at hSw); obtain ⟨hSw1, hSw2⟩ := hSw; go_simp⟩) hHeld ?_
      simp only [Act.put, List.setIfInBounds_toArray, List.set_cons_zero, List.set_cons_succ, List.getElem_toArray, List.getElem_cons_succ, List.getElem_cons_zero]
      refine wpAnyH_take (i := 9) (v := .pointer (some ⟨g, o + k * 2 + 1, none⟩)) rfl (by kernel_rfl) (by kernel_rfl) (by kernel_rfl) (fun _ _ _ h => h) (Or.inl ⟨by rfl, fun w hSw => by (try dsimp only at hSw); obtain ⟨hSw1, hSw2⟩ := hSw; go_simp⟩) hHeld ?_
      simp only [Act.put, List.setIfInBounds_toArray, List.set_cons_zero, List.set_cons_succ, List.getElem_toArray, List.getElem_cons_succ, List.getElem_cons_zero]
      refine wpAnyH_take (i := 10) (v := .int .u32 (b : Int)) rfl (by kernel_rfl) (by kernel_rfl) (by kernel_rfl) (fun _ _ _ h => h) (Or.inl ⟨by rfl, fun w hSw => by (try dsimp only at hSw); obtain ⟨hSw1, hSw2⟩ := hSw; go_simp⟩) hHeld ?_
      simp only [Act.put, List.setIfInBounds_toArray, List.set_cons_zero, List.set_cons_succ, List.getElem_toArray, List.getElem_cons_succ, List.getElem_cons_zero]
      refine wpAnyH_ready (rs := [11]) (by kernel_rfl) (by simp) ?_
      refine AllReadyH.cons rfl (fun K hK => ?_) AllReadyH.nil
      go_simp
      refine HJn.out.mono ?_
      rintro e wz ⟨r, two, rfl, hpj, htz⟩
      dsimp only
      have HPj := Lib.hid hpj
      have hbz : Below w.heap.size w wz := HBe.out.trans (htz.below HBe.out.size (fun j hj => by have := (HT1.out j).1 hj; have := HLow.out; omega))
      have HX8z := Lib.hid ((htz.block b8 (Array.getElem?_eq_some_iff.1 HX8.out).1 (fun h => ((HT1.out b8).1 h).2 rfl)).trans HX8.out)
      have HX6z := Lib.hid ((htz.block b6 (Array.getElem?_eq_some_iff.1 HX6.out).1 (fun h => by have := (HT1.out b6).1 h; have := HLow.out; omega)).trans HX6.out)
      have HBz := Lib.hid hbz
      have ca2 := (HCell.out wz hbz).1
      have cb2 := (HCell.out wz hbz).2
      refine hK.out _ _ ⟨ca2, cb2⟩ (fun hHeld => ?_)
      clear hpj htz hbz ca cb
      clear hK K
      (try simp only [Act.put, List.setIfInBounds_toArray, List.set_cons_zero, List.set_cons_succ, List.getElem_toArray, List.getElem_cons_succ, List.getElem_cons_zero])
      refine wpAnyH_done (by kernel_rfl) ?_ _
      clear hHeld
      have x8 : wz.drew.cell? ⟨b8, 0, none⟩ = some (.slice aoK K.length capK) := cell_in (W := wz) HX8z.out rfl
      have ca := (HCell.out wz.drew HBz.out.drew).1
      have cb := (HCell.out wz.drew HBz.out.drew).2
      clear ca2 cb2
      go_upto_region 9 with fail
      refine wp_region_held_drew (S := fun W' : World => W'.cell? ⟨g, o + k * 2, none⟩ = some (.int .u32 (a : Int)) ∧ W'.cell? ⟨g, o + k * 2 + 1, none⟩ = some (.int .u32 (b : Int))) (by kernel_rfl) ⟨ca, cb⟩ (fun hHeld => ?_)
      refine wpAnyH_take (i := 1) (v := .slice (some ⟨g, o, none⟩) n0 c0) rfl (by kernel_rfl) (by kernel_rfl) (by kernel_rfl) (fun _ _ _ h => h) (Or.inl ⟨by rfl, fun w hSw => by (try dsimp only at hSw); obtain ⟨hSw1, hSw2⟩ := hSw; go_simp⟩) hHeld ?_
      simp only [Act.put, List.setIfInBounds_toArray, List.set_cons_zero, List.set_cons_succ, List.getElem_toArray, List.getElem_cons_succ, List.getElem_cons_zero]
      refine wpAnyH_take (i := 2) (v := .int .i64 (k : Int)) rfl (by kernel_rfl) (by kernel_rfl) (by kernel_rfl) (fun _ _ _ h => h) (Or.inl ⟨by rfl, fun w hSw => by (try dsimp only at hSw); obtain ⟨hSw1, hSw2⟩ := hSw; go_simp⟩) hHeld ?_
      simp only [Act.put, List.setIfInBounds_toArray, List.set_cons_zero, List.set_cons_succ, List.getElem_toArray, List.getElem_cons_succ, List.getElem_cons_zero]
      refine wpAnyH_take (i := 3) (v := .pointer (some ⟨g, o + k * 2, none⟩)) rfl (by kernel_rfl) (by kernel_rfl) (by kernel_rfl) (fun _ _ _ h => h) (Or.inl ⟨by rfl, fun w hSw => by (try dsimp only at hSw); obtain ⟨hSw1, hSw2⟩ := hSw; go_simp⟩) hHeld ?_
      simp only [Act.put, List.setIfInBounds_toArray, List.set_cons_zero, List.set_cons_succ, List.getElem_toArray, List.getElem_cons_succ, List.getElem_cons_zero]
      refine wpAnyH_take (i := 4) (v := .pointer (some ⟨g, o + k * 2, none⟩)) rfl (by kernel_rfl) (by kernel_rfl) (by kernel_rfl) (fun _ _ _ h => h) (Or.inl ⟨by rfl, fun w hSw => by (try dsimp only at hSw); obtain ⟨hSw1, hSw2⟩ := hSw; go_simp⟩) hHeld ?_
      simp only [Act.put, List.setIfInBounds_toArray, List.set_cons_zero, List.set_cons_succ, List.getElem_toArray, List.getElem_cons_succ, List.getElem_cons_zero]
      refine wpAnyH_take (i := 5) (v := .int .u32 (a : Int)) rfl (by kernel_rfl) (by kernel_rfl) (by kernel_rfl) (fun _ _ _ h => h) (Or.inl ⟨by rfl, fun w hSw => by (try dsimp only at hSw); obtain ⟨hSw1, hSw2⟩ := hSw; go_simp⟩) hHeld ?_
      simp only [Act.put, List.setIfInBounds_toArray, List.set_cons_zero, List.set_cons_succ, List.getElem_toArray, List.getElem_cons_succ, List.getElem_cons_zero]
      refine wpAnyH_take (i := 6) (v := .slice (some ⟨g, o, none⟩) n0 c0) rfl (by kernel_rfl) (by kernel_rfl) (by kernel_rfl) (fun _ _ _ h => h) (Or.inl ⟨by rfl, fun w hSw => by (try dsimp only at hSw); obtain ⟨hSw1, hSw2⟩ := hSw; go_simp⟩) hHeld ?_
      simp only [Act.put, List.setIfInBounds_toArray, List.set_cons_zero, List.set_cons_succ, List.getElem_toArray, List.getElem_cons_succ, List.getElem_cons_zero]
      refine wpAnyH_take (i := 7) (v := .int .i64 (k : Int)) rfl (by kernel_rfl) (by kernel_rfl) (by kernel_rfl) (fun _ _ _ h => h) (Or.inl ⟨by rfl, fun w hSw => by (try dsimp only at hSw); obtain ⟨hSw1, hSw2⟩ := hSw; go_simp⟩) hHeld ?_
      simp only [Act.put, List.setIfInBounds_toArray, List.set_cons_zero, List.set_cons_succ, List.getElem_toArray, List.getElem_cons_succ, List.getElem_cons_zero]
      refine wpAnyH_take (i := 8) (v := .pointer (some ⟨g, o + k * 2, none⟩)) rfl (by kernel_rfl) (by kernel_rfl) (by kernel_rfl) (fun _ _ _ h => h) (Or.inl ⟨by rfl, fun w hSw => by (try dsimp only at hSw); obtain ⟨hSw1, hSw2⟩ := hSw; go_simp⟩) hHeld ?_
      simp only [Act.put, List.setIfInBounds_toArray, List.set_cons_zero, List.set_cons_succ, List.getElem_toArray, List.getElem_cons_succ, List.getElem_cons_zero]
      refine wpAnyH_take (i := 9) (v := .pointer (some ⟨g, o + k * 2 + 1, none⟩)) rfl (by kernel_rfl) (by kernel_rfl) (by kernel_rfl) (fun _ _ _ h => h) (Or.inl ⟨by rfl, fun w hSw => by (try dsimp only at hSw); obtain ⟨hSw1, hSw2⟩ := hSw; go_simp⟩) hHeld ?_
      simp only [Act.put, List.setIfInBounds_toArray, List.set_cons_zero, List.set_cons_succ, List.getElem_toArray, List.getElem_cons_succ, List.getElem_cons_zero]
      refine wpAnyH_take (i := 10) (v := .int .u32 (b : Int)) rfl (by kernel_rfl) (by kernel_rfl) (by kernel_rfl) (fun _ _ _ h => h) (Or.inl ⟨by rfl, fun w hSw => by (try dsimp only at hSw); obtain ⟨hSw1, hSw2⟩ := hSw; go_simp⟩) hHeld ?_
      simp only [Act.put, List.setIfInBounds_toArray, List.set_cons_zero, List.set_cons_succ, List.getElem_toArray, List.getElem_cons_succ, List.getElem_cons_zero]
      refine wpAnyH_ready (rs := [0]) (by kernel_rfl) (by simp) ?_
      refine AllReadyH.cons rfl (fun K hK => ?_) AllReadyH.nil
      go_simp
      refine hK.out _ _ ⟨ca, cb⟩ (fun hHeld => ?_)
      clear hK K
      (try simp only [Act.put, List.setIfInBounds_toArray, List.set_cons_zero, List.set_cons_succ, List.getElem_toArray, List.getElem_cons_succ, List.getElem_cons_zero])
      refine wpAnyH_ready (rs := [11]) (by kernel_rfl) (by simp) ?_
      refine AllReadyH.cons rfl (fun K hK => ?_) AllReadyH.nil
      go_simp
      refine (HRj.out wz HPj.out).mono ?_
      rintro e ws ⟨aoN, capN, two2, M, rfl, hpr, hbr⟩
      dsimp only
      have HPr := Lib.hid hpr
      have HBr := Lib.hid (HBz.out.trans (hbr.mono HBz.out.size))
      have h8s := (hbr.block b8 (Array.getElem?_eq_some_iff.1 HX8z.out).1).trans HX8z.out
      have h6s := (hbr.block b6 (Array.getElem?_eq_some_iff.1 HX6z.out).1).trans HX6z.out
      have x8s := cell_in (j := 0) h8s rfl
      have f8s := free_in h8s 0
      have HB8s := Lib.hid (HBr.out.setCell (p := ⟨b8, 0, none⟩) (show w.heap.size ≤ b8 by have := HLow.out; omega) (.slice aoN M.length capN))
      have HX8s := Lib.hid h8s
      have HX6s := Lib.hid h6s
      refine hK.out _ _ (HCell.out ws HBr.out) (fun hHeld => ?_)
      clear hpr hbr ca cb h8s h6s
      clear hK K
      (try simp only [Act.put, List.setIfInBounds_toArray, List.set_cons_zero, List.set_cons_succ, List.getElem_toArray, List.getElem_cons_succ, List.getElem_cons_zero])
      refine wpAnyH_take (i := 12) (v := .tuple #[.slice aoN M.length capN, .bool two2]) rfl (by kernel_rfl) (by kernel_rfl) (by kernel_rfl) (fun _ _ _ h => h) (Or.inl ⟨by rfl, fun w hSw => by (try dsimp only at hSw); obtain ⟨hSw1, hSw2⟩ := hSw; go_simp⟩) hHeld ?_
      simp only [Act.put, List.setIfInBounds_toArray, List.set_cons_zero, List.set_cons_succ, List.getElem_toArray, List.getElem_cons_succ, List.getElem_cons_zero]
      refine wpAnyH_take (i := 13) (v := .slice aoN M.length capN) rfl (by kernel_rfl) (by kernel_rfl) (by kernel_rfl) (fun _ _ _ h => h) (Or.inl ⟨by rfl, fun w hSw => by (try dsimp only at hSw); obtain ⟨hSw1, hSw2⟩ := hSw; go_simp⟩) hHeld ?_
      simp only [Act.put, List.setIfInBounds_toArray, List.set_cons_zero, List.set_cons_succ, List.getElem_toArray, List.getElem_cons_succ, List.getElem_cons_zero]
      refine wpAnyH_take (i := 14) (v := .bool two2) rfl (by kernel_rfl) (by kernel_rfl) (by kernel_rfl) (fun _ _ _ h => h) (Or.inl ⟨by rfl, fun w hSw => by (try dsimp only at hSw); obtain ⟨hSw1, hSw2⟩ := hSw; go_simp⟩) hHeld ?_
      simp only [Act.put, List.setIfInBounds_toArray, List.set_cons_zero, List.set_cons_succ, List.getElem_toArray, List.getElem_cons_succ, List.getElem_cons_zero]
      refine wpAnyH_ready (rs := [15]) (by kernel_rfl) (by simp) ?_
      refine AllReadyH.cons rfl (fun K hK => ?_) AllReadyH.nil
      go_simp
      refine hK.out _ _ (HCell.out _ HB8s.out) (fun hHeld => ?_)
      clear hK K
      refine wpAnyH_done (by kernel_rfl) ?_ _
      clear hHeld
      clear x8 x8s f8s
      go_wp2
      go_roundg (n0 - (k + 1))
      case measure => omega
      case rel =>
        refine ⟨k + 1, M, aoN, capN, by omega, by omega, by go_num, heap_setCell_same ws b8 0 _ _ _ HX8s.out, (Below.heap_setCell _ _ _ _ (show b6 ≠ b8 by have := HLow.out; omega)).trans HX6s.out, HB8s.out, ?_⟩
        rw [HTk.out]
        exact HPr.out.box HX8s.out (fun m h => by cases h) (fun h => ((HT1.out b8).1 h).2 rfl) _
end Go.Proofs.Ytjbfjglomonanaa

