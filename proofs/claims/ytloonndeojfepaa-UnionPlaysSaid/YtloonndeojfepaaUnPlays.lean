/-
  UNION'S JOINS, PLAYED. (Written by tools/genunplays.py.)
-/
import Derived.Test.YtloonndeojfepaaUnSame
import Derived.Test.YtloonndeojfepaaUnArg
namespace Go.Proofs.Ytloonndeojfepaa
open Go.RowKit
set_option linter.unusedVariables false
set_option linter.unusedSimpArgs false

theorem take_snoc {l : List (Nat × Nat)} {k : Nat} {x : Nat × Nat} (h : l[k]? = some x) : l.take (k + 1) = l.take k ++ [(x.1, x.2)] := by
  rw [List.take_add_one, h]
  rfl
/-- The joins' list lies apart from the partition. -/
def Apart (S : Nat → Prop) (ao : Option Addr) (K : List (Nat × Nat)) : Prop := 0 < K.length → ∀ x, ao = some x → ¬ S x.block
theorem PairR.turned {S : Nat → Prop} {W U : World} {ao : Option Addr} {K : List (Nat × Nat)} (h : PairR W ao K) (ht : Turned S W U) (ha : Apart S ao K) : PairR U ao K := fun h0 => by
  obtain ⟨g, o, e, hc⟩ := h h0
  have hn : ¬ S g := ha h0 _ e
  exact ⟨g, o, e, fun j x hx => ⟨ht.cell (a := ⟨g, o + j * 2, none⟩) hn (hc j x hx).1, ht.cell (a := ⟨g, o + j * 2 + 1, none⟩) hn (hc j x hx).2⟩⟩
theorem Apart.grow {S : Nat → Prop} {W U : World} {ao : Option Addr} {K : List (Nat × Nat)} (ha : Apart S ao K) (h : PairR W ao K) : Apart (growS S W U) ao K := fun h0 x hx hs => by
  obtain ⟨g, o, e, hc⟩ := h h0
  rcases hs with hs | hs
  · exact ha h0 x hx hs
  · rw [e] at hx
    cases hx
    obtain ⟨y, hy⟩ : ∃ y, K[0]? = some y := ⟨_, List.getElem?_eq_getElem h0⟩
    have h1 : g < W.heap.size := World.block_lt_of_cell? W ⟨g, o + 0 * 2, none⟩ (hc 0 y hy).1
    have h2 : W.heap.size ≤ g := hs.1
    omega
set_option maxRecDepth 100000 in
set_option maxHeartbeats 32000000 in
theorem plays_walk (ao : Option Addr) (cap : Nat) (l : List (Nat × Nat)) (al : Nat) (w : World) (hl : PairR w ao l) : Calls Try.prog 3 #[.slice ao l.length cap, .int .u32 (al : Int)] w fun e w' => e = .returned (.bool true) ∧ Below w.heap.size w w' := by
  have HK := Lib.hid known_any
  have HP := Lib.hid hl
  clear hl
  by_cases hlen : 60 < l.length
  · have e0 : decide ((l.length : Int) > 60) = true := decide_eq_true (by omega)
    have e0' : decide (60 < (l.length : Int)) = true := decide_eq_true (by omega)
    have e0'' : decide (60 < l.length) = true := decide_eq_true (by omega)
    go_enter Try.func3, Try.ntmps3
    go_wp2_with (go_at_call 6; refine (HK.out _).mono ?_; rintro e w' ⟨rfl, hY⟩; replace hY := Lib.hid hY)
    go_ret
    exact ⟨rfl, hY.out⟩
  have e0 : decide ((l.length : Int) > 60) = false := decide_eq_false (by omega)
  have e0' : decide (60 < (l.length : Int)) = false := decide_eq_false (by omega)
  have e0'' : decide (60 < l.length) = false := decide_eq_false (by omega)
  have HNw := Lib.hid unNew
  obtain ⟨n, hn⟩ : ∃ n, n = l.length := ⟨_, rfl⟩
  rw [← hn] at e0 e0' e0'' hlen
  rw [← hn]
  have HN := Lib.hid hn
  clear hn
  go_enter Try.func3, Try.ntmps3
  go_upto_region 4 with (go_at_call 7; refine (HNw.out w).mono ?_; rintro e w1 ⟨pb, rfl, h1, h2⟩; replace h1 := Lib.hid h1; replace h2 := Lib.hid h2)
  go_wp2
  go_loopg [6, 7] n (fun gg s i wr => ∃ (k : Nat) (K : List (Nat × Nat)) (aoK : Option Addr) (capK : Nat), k ≤ n ∧ n - k ≤ gg ∧ i = .int .i64 (k : Int) ∧ s = .slice aoK K.length capK ∧ PairR wr aoK K ∧ Eff (l.take k) K ∧ Below w.heap.size w wr ∧ ∃ S, UnI wr S pb (l.take k) ∧ (∀ j, S j → w.heap.size ≤ j) ∧ Apart S aoK K)
  case atStart => exact ⟨0, [], none, 0, by omega, by omega, rfl, rfl, (fun h => (by simp at h)), Eff.nil, h1.out, _, h2.out, (fun j hj => hj.1), (fun h => (by simp at h))⟩
  case round =>
    obtain ⟨k, K, aoK, capK, hk, hg, rfl, rfl, hPK, hEf, hbe, S, hU, hS, hAp⟩ := hrel
    obtain ⟨wy, hwy⟩ : ∃ wy, wy = wr := ⟨_, rfl⟩
    subst hwy
    have HPK := Lib.hid hPK
    have HEf := Lib.hid hEf
    have HBe := Lib.hid hbe
    have HU := Lib.hid hU
    have HS := Lib.hid hS
    have HAp := Lib.hid hAp
    have hJ60 : (l.take k).length ≤ 60 := by rw [List.length_take]; have := HN.out; omega
    have hK60 : K.length ≤ 60 := Nat.le_trans hEf.few hJ60
    clear hPK hEf hbe hU hS hAp h1 h2 HNw
    obtain rfl | hkn : k = n ∨ k < n := by omega
    · have htk : l.take k = l := List.take_of_length_le (by have := HN.out; omega)
      have hEf := HEf.out
      have hUn := HU.out
      rw [htk] at hEf hUn hJ60
      have HSame : Hid (Calls Try.prog 11 #[unP pb, .slice aoK K.length capK] wy fun e w' => e = .returned (.bool true) ∧ Below wy.heap.size wy w') := Lib.hid (same_any hUn hEf HPK.out hJ60)
      obtain ⟨M, hM⟩ : ∃ M, M = cliqueJ l al := ⟨_, rfl⟩
      have hMK : cliqueJ K al = M := by rw [hM]; exact cliqueJ_same hEf.con al
      obtain ⟨ml, hml⟩ : ∃ ml, ml = M.length := ⟨_, rfl⟩
      have hml9 : M.length ≤ 1000000000 := by rw [hM]; exact cliqueJ_few l al (by omega)
      obtain ⟨v0, hv0⟩ : ∃ v0, v0 = leastJ l al := ⟨_, rfl⟩
      have HCp : Hid (∀ U, Below wy.heap.size wy U → Calls Try.prog 13 #[unP pb, .int .u32 (al : Int)] U fun e w' => ∃ ao cap, e = .returned (.slice ao ml cap) ∧ NumsR w' ao M ∧ Below wy.heap.size wy w') := Lib.hid (fun U hU => by
        have h8 := (hUn.below hU).clique (by omega) al
        rw [← hM, ← hml] at h8
        refine h8.mono ?_
        rintro e w' ⟨a8, c8, rfl, h1, h2⟩
        exact ⟨a8, c8, rfl, h1, hU.trans (h2.mono hU.size)⟩)
      have HCr : Hid (∀ U, Below wy.heap.size wy U → Calls Try.prog 10 #[.slice aoK K.length capK, .int .u32 (al : Int)] U fun e w' => ∃ ao cap, e = .returned (.slice ao ml cap) ∧ ElR keyU w' ao M ∧ Below U.heap.size U w' ∧ Below wy.heap.size wy w') := Lib.hid (fun U hU => by
        have h8 := refClique_any (cap := capK) al (HPK.out.below hU) (by omega) hEf.nz
        rw [hMK, ← hml] at h8
        refine h8.mono ?_
        rintro e w' ⟨a8, c8, rfl, h1, h2⟩
        exact ⟨a8, c8, rfl, h1, h2, hU.trans (h2.mono hU.size)⟩)
      have HEq : Hid (∀ (ao bo : Option Addr) (ca cb : Nat) (U : World), NumsR U ao M → ElR keyU U bo M → Below wy.heap.size wy U → Calls Try.prog 12 #[.slice ao ml ca, .slice bo ml cb] U fun e w' => e = .returned (.bool true) ∧ Below wy.heap.size wy w') := Lib.hid (fun ao bo ca cb U h1 h2 hU => by
        have h8 := equal_any (ca := ca) (cb := cb) h1 (show NumsR U bo M from h2) hml9
        rw [← hml] at h8
        refine h8.mono ?_
        rintro e w' ⟨rfl, h⟩
        exact ⟨by simp, hU.trans (h.mono hU.size)⟩)
      have HFd : Hid (∀ U, Below wy.heap.size wy U → Calls Try.prog 14 #[unP pb, .int .u32 (al : Int)] U fun e w' => e = .returned (.int .u32 (v0 : Int)) ∧ U = w') := Lib.hid (fun U hU => by
        refine ((hUn.below hU).find al).mono ?_
        rintro e w' ⟨rfl, rfl⟩
        exact ⟨by rw [hv0], rfl⟩)
      have HF0 : Hid (∀ U, Below wy.heap.size wy U → Calls Try.prog 14 #[unP pb, .int .u32 0] U fun e w' => e = .returned (.int .u32 0) ∧ U = w') := Lib.hid (fun U hU => by
        refine ((hUn.below hU).find 0).mono ?_
        rintro e w' ⟨rfl, rfl⟩
        have : leastJ l 0 = 0 := by
          unfold leastJ lookA
          rw [(runA_of l).inv.zero]
        exact ⟨by rw [this]; rfl, rfl⟩)
      by_cases hal : al = 0
      · have ez : ((al : Int) == 0) = true := by rw [hal]; decide
        have ez0 : ((0 : Int) == 0) = true := by decide
        clear htk hEf hUn hJ60 hM hMK hml hml9 hv0 HFd hal
        go_wp2_with (first
        | (go_at_call 11; (with_reducible refine HSame.out.mono ?_); rintro e u1 ⟨rfl, hb1⟩; replace hb1 := Lib.hid hb1)
        | (go_at_call 13; (with_reducible refine (HCp.out _ hb1.out).mono ?_); rintro e u2 ⟨aoP, capP, rfl, hNp, hb2⟩; replace hNp := Lib.hid hNp; replace hb2 := Lib.hid hb2)
        | (go_at_call 10; (with_reducible refine (HCr.out _ hb2.out).mono ?_); rintro e u3 ⟨aoC, capC, rfl, hNc, hb3, hb3y⟩; have HEq3 := Lib.hid (HEq.out aoP aoC capP capC u3 (hNp.out.below hb3) hNc hb3y); clear hNc hb3 hb3y)
        | (go_at_call 12; (with_reducible refine HEq3.out.mono ?_); rintro e u4 ⟨rfl, hb4⟩; replace hb4 := Lib.hid hb4)
          | (go_at_call 14; (with_reducible refine (HF0.out _ hb4.out).mono ?_); rintro e u5 ⟨rfl, rfl⟩)
          | (go_at_call 6; (with_reducible refine (HK.out _).mono ?_); rintro e u6 ⟨rfl, hY⟩; replace hY := Lib.hid hY))
        go_ret
        have hb6 := HBe.out.trans (hb4.out.mono HBe.out.size)
        exact ⟨rfl, hb6.trans (hY.out.mono hb6.size)⟩
      · have ez : ((al : Int) == 0) = false := by rw [beq_eq_false_iff_ne]; omega
        have ez0 : ((0 : Int) == 0) = true := by decide
        have evv : ((v0 : Int) == (v0 : Int)) = true := by simp
        obtain ⟨t, ht⟩ := cliqueJ_head (J := l) hal
        rw [← hM, ← hv0] at ht
        have hml0 : 0 < ml := by rw [hml, ht]; simp
        have hml2 : (0 : Int) < (ml : Int) := by omega
        have HCr2 : Hid (∀ U, Below wy.heap.size wy U → Calls Try.prog 10 #[.slice aoK K.length capK, .int .u32 (al : Int)] U fun e w' => ∃ g8 o8 c8, e = .returned (.slice (some ⟨g8, o8, none⟩) ml c8) ∧ w'.cell? ⟨g8, o8, none⟩ = some (.int .u32 (v0 : Int)) ∧ Below wy.heap.size wy w') := Lib.hid (fun U hU => by
          refine (HCr.out U hU).mono ?_
          rintro e w' ⟨a8, c8, rfl, h1, h2, h3⟩
          obtain ⟨g8, o8, rfl, hc⟩ := h1 (by omega)
          exact ⟨g8, o8, c8, rfl, hc 0 v0 (by rw [ht]; rfl), h3⟩)
        clear htk hEf hUn hJ60 hM hMK hml hml9 hv0 ht
        go_wp2_with (first
        | (go_at_call 11; (with_reducible refine HSame.out.mono ?_); rintro e u1 ⟨rfl, hb1⟩; replace hb1 := Lib.hid hb1)
        | (go_at_call 13; (with_reducible refine (HCp.out _ hb1.out).mono ?_); rintro e u2 ⟨aoP, capP, rfl, hNp, hb2⟩; replace hNp := Lib.hid hNp; replace hb2 := Lib.hid hb2)
        | (go_at_call 10; (with_reducible refine (HCr.out _ hb2.out).mono ?_); rintro e u3 ⟨aoC, capC, rfl, hNc, hb3, hb3y⟩; have HEq3 := Lib.hid (HEq.out aoP aoC capP capC u3 (hNp.out.below hb3) hNc hb3y); clear hNc hb3 hb3y)
        | (go_at_call 12; (with_reducible refine HEq3.out.mono ?_); rintro e u4 ⟨rfl, hb4⟩; replace hb4 := Lib.hid hb4)
          | (go_at_call 14; (with_reducible refine (HFd.out _ hb4.out).mono ?_); rintro e u5 ⟨rfl, rfl⟩)
          | (go_at_call 10; (with_reducible refine (HCr2.out _ hb4.out).mono ?_); rintro e u7 ⟨g8, o8, c8, rfl, hc8, hb7⟩; replace hb7 := Lib.hid hb7)
          | (go_at_call 14; (with_reducible refine (HF0.out _ hb7.out).mono ?_); rintro e u5 ⟨rfl, rfl⟩)
          | (go_at_call 6; (with_reducible refine (HK.out _).mono ?_); rintro e u6 ⟨rfl, hY⟩; replace hY := Lib.hid hY))
        go_ret
        have hb6 := HBe.out.trans (hb7.out.mono HBe.out.size)
        exact ⟨rfl, hb6.trans (hY.out.mono hb6.size)⟩
    · have hkl : k < l.length := by have := HN.out; omega
      obtain ⟨x, hx⟩ : ∃ x, l[k]? = some x := ⟨_, List.getElem?_eq_getElem hkl⟩
      have HTk := Lib.hid (take_snoc hx)
      obtain ⟨g, o, rfl, hcell⟩ := HP.out (by omega)
      have hc0 := hcell k x hx
      obtain ⟨a, b⟩ := x
      dsimp only at hc0 HTk
      have HCell : Hid (∀ U, Below w.heap.size w U → U.cell? ⟨g, o + k * 2, none⟩ = some (.int .u32 (a : Int)) ∧ U.cell? ⟨g, o + k * 2 + 1, none⟩ = some (.int .u32 (b : Int))) := Lib.hid (fun U hU => ⟨(hU.cell (p := ⟨g, o + k * 2, none⟩) (World.block_lt_of_cell? _ _ hc0.1)).trans hc0.1, (hU.cell (p := ⟨g, o + k * 2 + 1, none⟩) (World.block_lt_of_cell? _ _ hc0.2)).trans hc0.2⟩)
      have e4 : decide ((k : Int) < (n : Int)) = true := decide_eq_true (by omega)
      obtain ⟨hE2, htwo, hrep⟩ := HEf.out.join a b
      obtain ⟨r1, hr1⟩ : ∃ r1, r1 = (joinA (runA (l.take k)) a b).2.1 := ⟨_, rfl⟩
      obtain ⟨two, htw⟩ : ∃ two, two = (joinA (runA (l.take k)) a b).2.2 := ⟨_, rfl⟩
      obtain ⟨K2, hK2⟩ : ∃ K2, K2 = joinK K a b := ⟨_, rfl⟩
      rw [← htw] at htwo
      rw [← hr1] at hrep
      rw [← hK2] at hE2
      have HJn : Hid (Calls Try.prog 8 #[unP pb, .int .u32 (a : Int), .int .u32 (b : Int)] wy.drew fun e w' => e = .returned (.tuple #[.int .u32 (r1 : Int), .bool two]) ∧ Below w.heap.size w w' ∧ PairR w' aoK K ∧ ∃ S, UnI w' S pb (l.take (k + 1)) ∧ (∀ j, S j → w.heap.size ≤ j) ∧ Apart S aoK K) := Lib.hid (by
        have hd := (Below.refl wy.heap.size wy).drew
        have hUd := HU.out.below hd
        have hPd := HPK.out.below hd
        refine (hUd.join (by omega) a b).mono ?_
        rintro e w' ⟨rfl, ht, hu⟩
        have e9 : wy.drew.heap.size = wy.heap.size := rfl
        refine ⟨by rw [hr1, htw], HBe.out.trans ((hd.mono HBe.out.size).trans (ht.below HBe.out.size HS.out)), hPd.turned ht HAp.out, growS S wy.drew w', ?_, fun j hj => ?_, HAp.out.grow hPd⟩
        · rw [HTk.out]
          exact hu
        · rcases hj with hj | hj
          · exact HS.out j hj
          · have := HBe.out.size
            have := hj.1
            omega)
      rw [← HTk.out] at hE2
      have HE2 := Lib.hid hE2
      have HRj0 : Hid (∀ U, PairR U aoK K → Calls Try.prog 9 #[.slice aoK K.length capK, .int .u32 (a : Int), .int .u32 (b : Int)] U fun e w' => ∃ aoN capN, e = .returned (.tuple #[.slice aoN K2.length capN, .bool two]) ∧ PairR w' aoN K2 ∧ Below U.heap.size U w' ∧ ((aoN = aoK ∧ K2 = K) ∨ ∀ x, aoN = some x → U.heap.size ≤ x.block)) := Lib.hid (fun U hU => by
        have h8 := refJoin_any (cap := capK) a b hU (by omega) HEf.out.nz
        rw [← hK2, ← htwo] at h8
        exact h8)
      have HWant : Hid ((a = 0 ∨ b = 0) → r1 = 0) := Lib.hid (fun h => by rw [hrep, if_pos h])
      have HWant2 : Hid (a ≠ 0 → b ≠ 0 → r1 = leastJ (l.take (k + 1)) a) := Lib.hid (fun h1 h2 => by rw [hrep, if_neg (by omega), HTk.out])
      have ca := (HCell.out wy.drew HBe.out.drew).1
      have cb := (HCell.out wy.drew HBe.out.drew).2
      clear hc0 hcell hx hE2 htwo hrep hr1 htw hK2 hkl
      go_upto_region 8 with fail
      refine wp_region_held_drew (S := fun W' : World => W'.cell? ⟨g, o + k * 2, none⟩ = some (.int .u32 (a : Int)) ∧ W'.cell? ⟨g, o + k * 2 + 1, none⟩ = some (.int .u32 (b : Int))) (by kernel_rfl) ⟨ca, cb⟩ (fun hHeld => ?_)
      refine wpAnyH_take (i := 0) (v := unP pb) rfl (by kernel_rfl) (by kernel_rfl) (by kernel_rfl) (fun _ _ _ h => h) (Or.inl ⟨by rfl, fun w hSw => by (try dsimp only at hSw); obtain ⟨hSw1, hSw2⟩ := hSw; go_simp⟩) hHeld ?_
      simp only [Act.put, List.setIfInBounds_toArray, List.set_cons_zero, List.set_cons_succ, List.getElem_toArray, List.getElem_cons_succ, List.getElem_cons_zero]
      refine wpAnyH_take (i := 1) (v := .slice (some ⟨g, o, none⟩) n cap) rfl (by kernel_rfl) (by kernel_rfl) (by kernel_rfl) (fun _ _ _ h => h) (Or.inl ⟨by rfl, fun w hSw => by (try dsimp only at hSw); obtain ⟨hSw1, hSw2⟩ := hSw; go_simp⟩) hHeld ?_
      simp only [Act.put, List.setIfInBounds_toArray, List.set_cons_zero, List.set_cons_succ, List.getElem_toArray, List.getElem_cons_succ, List.getElem_cons_zero]
      refine wpAnyH_take (i := 2) (v := .int .i64 (k : Int)) rfl (by kernel_rfl) (by kernel_rfl) (by kernel_rfl) (fun _ _ _ h => h) (Or.inl ⟨by rfl, fun w hSw => by (try dsimp only at hSw); obtain ⟨hSw1, hSw2⟩ := hSw; go_simp⟩) hHeld ?_
      simp only [Act.put, List.setIfInBounds_toArray, List.set_cons_zero, List.set_cons_succ, List.getElem_toArray, List.getElem_cons_succ, List.getElem_cons_zero]
      refine wpAnyH_take (i := 3) (v := .pointer (some ⟨g, o + k * 2, none⟩)) rfl (by kernel_rfl) (by kernel_rfl) (by kernel_rfl) (fun _ _ _ h => h) (Or.inl ⟨by rfl, fun w hSw => by (try dsimp only at hSw); obtain ⟨hSw1, hSw2⟩ := hSw; go_simp⟩) hHeld ?_
      simp only [Act.put, List.setIfInBounds_toArray, List.set_cons_zero, List.set_cons_succ, List.getElem_toArray, List.getElem_cons_succ, List.getElem_cons_zero]
      refine wpAnyH_take (i := 4) (v := .pointer (some ⟨g, o + k * 2, none⟩)) rfl (by kernel_rfl) (by kernel_rfl) (by kernel_rfl) (fun _ _ _ h => h) (Or.inl ⟨by rfl, fun w hSw => by (try dsimp only at hSw); obtain ⟨hSw1, hSw2⟩ := hSw; go_simp⟩) hHeld ?_
      simp only [Act.put, List.setIfInBounds_toArray, List.set_cons_zero, List.set_cons_succ, List.getElem_toArray, List.getElem_cons_succ, List.getElem_cons_zero]
      refine wpAnyH_take (i := 5) (v := .int .u32 (a : Int)) rfl (by kernel_rfl) (by kernel_rfl) (by kernel_rfl) (fun _ _ _ h => h) (Or.inl ⟨by rfl, fun w hSw => by (try dsimp only at hSw); obtain ⟨hSw1, hSw2⟩ := hSw; go_simp⟩) hHeld ?_
      simp only [Act.put, List.setIfInBounds_toArray, List.set_cons_zero, List.set_cons_succ, List.getElem_toArray, List.getElem_cons_succ, List.getElem_cons_zero]
      refine wpAnyH_take (i := 6) (v := .slice (some ⟨g, o, none⟩) n cap) rfl (by kernel_rfl) (by kernel_rfl) (by kernel_rfl) (fun _ _ _ h => h) (Or.inl ⟨by rfl, fun w hSw => by (try dsimp only at hSw); obtain ⟨hSw1, hSw2⟩ := hSw; go_simp⟩) hHeld ?_
      simp only [Act.put, List.setIfInBounds_toArray, List.set_cons_zero, List.set_cons_succ, List.getElem_toArray, List.getElem_cons_succ, List.getElem_cons_zero]
      refine wpAnyH_take (i := 7) (v := .int .i64 (k : Int)) rfl (by kernel_rfl) (by kernel_rfl) (by kernel_rfl) (fun _ _ _ h => h) (Or.inl ⟨by rfl, fun w hSw => by (try dsimp only at hSw); obtain ⟨hSw1, hSw2⟩ := hSw; go_simp⟩) hHeld ?_
      simp only [Act.put, List.setIfInBounds_toArray, List.set_cons_zero, List.set_cons_succ, List.getElem_toArray, List.getElem_cons_succ, List.getElem_cons_zero]
      refine wpAnyH_take (i := 8) (v := .pointer (some ⟨g, o + k * 2, none⟩)) rfl (by kernel_rfl) (by kernel_rfl) (by kernel_rfl) (fun _ _ _ h => h) (Or.inl ⟨by rfl, fun w hSw => by (try dsimp only at hSw); obtain ⟨hSw1, hSw2⟩ := hSw; go_simp⟩) hHeld ?_
      simp only [Act.put, List.setIfInBounds_toArray, List.set_cons_zero, List.set_cons_succ, List.getElem_toArray, List.getElem_cons_succ, List.getElem_cons_zero]
      refine wpAnyH_take (i := 9) (v := .pointer (some ⟨g, o + k * 2 + 1, none⟩)) rfl (by kernel_rfl) (by kernel_rfl) (by kernel_rfl) (fun _ _ _ h => h) (Or.inl ⟨by rfl, fun w hSw => by (try dsimp only at hSw); obtain ⟨hSw1, hSw2⟩ := hSw; go_simp⟩) hHeld ?_
      simp only [Act.put, List.setIfInBounds_toArray, List.set_cons_zero, List.set_cons_succ, List.getElem_toArray, List.getElem_cons_succ, List.getElem_cons_zero]
      refine wpAnyH_take (i := 10) (v := .int .u32 (b : Int)) rfl (by kernel_rfl) (by kernel_rfl) (by kernel_rfl) (fun _ _ _ h => h) (Or.inl ⟨by rfl, fun w hSw => by (try dsimp only at hSw); obtain ⟨hSw1, hSw2⟩ := hSw; go_simp⟩) hHeld ?_
      simp only [Act.put, List.setIfInBounds_toArray, List.set_cons_zero, List.set_cons_succ, List.getElem_toArray, List.getElem_cons_succ, List.getElem_cons_zero]
      refine wpAnyH_ready (rs := [11]) (by kernel_rfl) (by simp) ?_
      refine AllReadyH.cons rfl (fun K hK => ?_) AllReadyH.nil
      go_simp
      refine HJn.out.mono ?_
      rintro e w2 ⟨rfl, hB2, hP2, S2, hU2, hS2, hA2⟩
      dsimp only
      have HB2 := Lib.hid hB2
      have HP2 := Lib.hid hP2
      have HA2 := Lib.hid hA2
      have HU2 := Lib.hid hU2
      have HS2 := Lib.hid hS2
      have ca2 := (HCell.out w2 HB2.out).1
      have cb2 := (HCell.out w2 HB2.out).2
      refine hK.out _ _ ⟨ca2, cb2⟩ (fun hHeld => ?_)
      clear hB2 hU2 hS2 hP2 hA2 ca cb
      clear hK K
      (try simp only [Act.put, List.setIfInBounds_toArray, List.set_cons_zero, List.set_cons_succ, List.getElem_toArray, List.getElem_cons_succ, List.getElem_cons_zero])
      refine wpAnyH_take (i := 12) (v := .tuple #[.int .u32 (r1 : Int), .bool two]) rfl (by kernel_rfl) (by kernel_rfl) (by kernel_rfl) (fun _ _ _ h => h) (Or.inl ⟨by rfl, fun w hSw => by (try dsimp only at hSw); obtain ⟨hSw1, hSw2⟩ := hSw; go_simp⟩) hHeld ?_
      simp only [Act.put, List.setIfInBounds_toArray, List.set_cons_zero, List.set_cons_succ, List.getElem_toArray, List.getElem_cons_succ, List.getElem_cons_zero]
      refine wpAnyH_take (i := 13) (v := .int .u32 (r1 : Int)) rfl (by kernel_rfl) (by kernel_rfl) (by kernel_rfl) (fun _ _ _ h => h) (Or.inl ⟨by rfl, fun w hSw => by (try dsimp only at hSw); obtain ⟨hSw1, hSw2⟩ := hSw; go_simp⟩) hHeld ?_
      simp only [Act.put, List.setIfInBounds_toArray, List.set_cons_zero, List.set_cons_succ, List.getElem_toArray, List.getElem_cons_succ, List.getElem_cons_zero]
      refine wpAnyH_take (i := 14) (v := .bool two) rfl (by kernel_rfl) (by kernel_rfl) (by kernel_rfl) (fun _ _ _ h => h) (Or.inl ⟨by rfl, fun w hSw => by (try dsimp only at hSw); obtain ⟨hSw1, hSw2⟩ := hSw; go_simp⟩) hHeld ?_
      simp only [Act.put, List.setIfInBounds_toArray, List.set_cons_zero, List.set_cons_succ, List.getElem_toArray, List.getElem_cons_succ, List.getElem_cons_zero]
      refine wpAnyH_take (i := 15) (v := .int .u32 (r1 : Int)) rfl (by kernel_rfl) (by kernel_rfl) (by kernel_rfl) (fun _ _ _ h => h) (Or.inl ⟨by rfl, fun w hSw => by (try dsimp only at hSw); obtain ⟨hSw1, hSw2⟩ := hSw; go_simp⟩) hHeld ?_
      simp only [Act.put, List.setIfInBounds_toArray, List.set_cons_zero, List.set_cons_succ, List.getElem_toArray, List.getElem_cons_succ, List.getElem_cons_zero]
      refine wpAnyH_take (i := 16) (v := .bool two) rfl (by kernel_rfl) (by kernel_rfl) (by kernel_rfl) (fun _ _ _ h => h) (Or.inl ⟨by rfl, fun w hSw => by (try dsimp only at hSw); obtain ⟨hSw1, hSw2⟩ := hSw; go_simp⟩) hHeld ?_
      simp only [Act.put, List.setIfInBounds_toArray, List.set_cons_zero, List.set_cons_succ, List.getElem_toArray, List.getElem_cons_succ, List.getElem_cons_zero]
      refine wpAnyH_done (by kernel_rfl) ?_ _
      clear hHeld
      go_upto_region 9 with fail
      have HRj : Hid (Calls Try.prog 9 #[.slice aoK K.length capK, .int .u32 (a : Int), .int .u32 (b : Int)] w2.drew fun e w' => ∃ aoN capN, e = .returned (.tuple #[.slice aoN K2.length capN, .bool two]) ∧ PairR w' aoN K2 ∧ Below w.heap.size w w' ∧ UnI w' S2 pb (l.take (k + 1)) ∧ Apart S2 aoN K2) := Lib.hid (by
        have hd := (Below.refl w2.heap.size w2).drew
        refine (HRj0.out w2.drew (HP2.out.below hd)).mono ?_
        rintro e w' ⟨aoN, capN, rfl, h1, h2, h3⟩
        have hB := hd.trans h2
        refine ⟨aoN, capN, rfl, h1, HB2.out.trans (hB.mono HB2.out.size), HU2.out.below hB, fun h0 x hx hs => ?_⟩
        rcases h3 with ⟨rfl, rfl⟩ | h3
        · exact HA2.out h0 x hx hs
        · have h4 : w2.heap.size ≤ x.block := h3 x hx
          have := HU2.out.lt _ hs
          omega)
      have ca := (HCell.out w2.drew HB2.out.drew).1
      have cb := (HCell.out w2.drew HB2.out.drew).2
      refine wp_region_held_drew (S := fun W' : World => W'.cell? ⟨g, o + k * 2, none⟩ = some (.int .u32 (a : Int)) ∧ W'.cell? ⟨g, o + k * 2 + 1, none⟩ = some (.int .u32 (b : Int))) (by kernel_rfl) ⟨ca, cb⟩ (fun hHeld => ?_)
      refine wpAnyH_take (i := 0) (v := .slice aoK K.length capK) rfl (by kernel_rfl) (by kernel_rfl) (by kernel_rfl) (fun _ _ _ h => h) (Or.inl ⟨by rfl, fun w hSw => by (try dsimp only at hSw); obtain ⟨hSw1, hSw2⟩ := hSw; go_simp⟩) hHeld ?_
      simp only [Act.put, List.setIfInBounds_toArray, List.set_cons_zero, List.set_cons_succ, List.getElem_toArray, List.getElem_cons_succ, List.getElem_cons_zero]
      refine wpAnyH_take (i := 1) (v := .slice (some ⟨g, o, none⟩) n cap) rfl (by kernel_rfl) (by kernel_rfl) (by kernel_rfl) (fun _ _ _ h => h) (Or.inl ⟨by rfl, fun w hSw => by (try dsimp only at hSw); obtain ⟨hSw1, hSw2⟩ := hSw; go_simp⟩) hHeld ?_
      simp only [Act.put, List.setIfInBounds_toArray, List.set_cons_zero, List.set_cons_succ, List.getElem_toArray, List.getElem_cons_succ, List.getElem_cons_zero]
      refine wpAnyH_take (i := 2) (v := .int .i64 (k : Int)) rfl (by kernel_rfl) (by kernel_rfl) (by kernel_rfl) (fun _ _ _ h => h) (Or.inl ⟨by rfl, fun w hSw => by (try dsimp only at hSw); obtain ⟨hSw1, hSw2⟩ := hSw; go_simp⟩) hHeld ?_
      simp only [Act.put, List.setIfInBounds_toArray, List.set_cons_zero, List.set_cons_succ, List.getElem_toArray, List.getElem_cons_succ, List.getElem_cons_zero]
      refine wpAnyH_take (i := 3) (v := .pointer (some ⟨g, o + k * 2, none⟩)) rfl (by kernel_rfl) (by kernel_rfl) (by kernel_rfl) (fun _ _ _ h => h) (Or.inl ⟨by rfl, fun w hSw => by (try dsimp only at hSw); obtain ⟨hSw1, hSw2⟩ := hSw; go_simp⟩) hHeld ?_
      simp only [Act.put, List.setIfInBounds_toArray, List.set_cons_zero, List.set_cons_succ, List.getElem_toArray, List.getElem_cons_succ, List.getElem_cons_zero]
      refine wpAnyH_take (i := 4) (v := .pointer (some ⟨g, o + k * 2, none⟩)) rfl (by kernel_rfl) (by kernel_rfl) (by kernel_rfl) (fun _ _ _ h => h) (Or.inl ⟨by rfl, fun w hSw => by (try dsimp only at hSw); obtain ⟨hSw1, hSw2⟩ := hSw; go_simp⟩) hHeld ?_
      simp only [Act.put, List.setIfInBounds_toArray, List.set_cons_zero, List.set_cons_succ, List.getElem_toArray, List.getElem_cons_succ, List.getElem_cons_zero]
      refine wpAnyH_take (i := 5) (v := .int .u32 (a : Int)) rfl (by kernel_rfl) (by kernel_rfl) (by kernel_rfl) (fun _ _ _ h => h) (Or.inl ⟨by rfl, fun w hSw => by (try dsimp only at hSw); obtain ⟨hSw1, hSw2⟩ := hSw; go_simp⟩) hHeld ?_
      simp only [Act.put, List.setIfInBounds_toArray, List.set_cons_zero, List.set_cons_succ, List.getElem_toArray, List.getElem_cons_succ, List.getElem_cons_zero]
      refine wpAnyH_take (i := 6) (v := .slice (some ⟨g, o, none⟩) n cap) rfl (by kernel_rfl) (by kernel_rfl) (by kernel_rfl) (fun _ _ _ h => h) (Or.inl ⟨by rfl, fun w hSw => by (try dsimp only at hSw); obtain ⟨hSw1, hSw2⟩ := hSw; go_simp⟩) hHeld ?_
      simp only [Act.put, List.setIfInBounds_toArray, List.set_cons_zero, List.set_cons_succ, List.getElem_toArray, List.getElem_cons_succ, List.getElem_cons_zero]
      refine wpAnyH_take (i := 7) (v := .int .i64 (k : Int)) rfl (by kernel_rfl) (by kernel_rfl) (by kernel_rfl) (fun _ _ _ h => h) (Or.inl ⟨by rfl, fun w hSw => by (try dsimp only at hSw); obtain ⟨hSw1, hSw2⟩ := hSw; go_simp⟩) hHeld ?_
      simp only [Act.put, List.setIfInBounds_toArray, List.set_cons_zero, List.set_cons_succ, List.getElem_toArray, List.getElem_cons_succ, List.getElem_cons_zero]
      refine wpAnyH_take (i := 8) (v := .pointer (some ⟨g, o + k * 2, none⟩)) rfl (by kernel_rfl) (by kernel_rfl) (by kernel_rfl) (fun _ _ _ h => h) (Or.inl ⟨by rfl, fun w hSw => by (try dsimp only at hSw); obtain ⟨hSw1, hSw2⟩ := hSw; go_simp⟩) hHeld ?_
      simp only [Act.put, List.setIfInBounds_toArray, List.set_cons_zero, List.set_cons_succ, List.getElem_toArray, List.getElem_cons_succ, List.getElem_cons_zero]
      refine wpAnyH_take (i := 9) (v := .pointer (some ⟨g, o + k * 2 + 1, none⟩)) rfl (by kernel_rfl) (by kernel_rfl) (by kernel_rfl) (fun _ _ _ h => h) (Or.inl ⟨by rfl, fun w hSw => by (try dsimp only at hSw); obtain ⟨hSw1, hSw2⟩ := hSw; go_simp⟩) hHeld ?_
      simp only [Act.put, List.setIfInBounds_toArray, List.set_cons_zero, List.set_cons_succ, List.getElem_toArray, List.getElem_cons_succ, List.getElem_cons_zero]
      refine wpAnyH_take (i := 10) (v := .int .u32 (b : Int)) rfl (by kernel_rfl) (by kernel_rfl) (by kernel_rfl) (fun _ _ _ h => h) (Or.inl ⟨by rfl, fun w hSw => by (try dsimp only at hSw); obtain ⟨hSw1, hSw2⟩ := hSw; go_simp⟩) hHeld ?_
      simp only [Act.put, List.setIfInBounds_toArray, List.set_cons_zero, List.set_cons_succ, List.getElem_toArray, List.getElem_cons_succ, List.getElem_cons_zero]
      refine wpAnyH_ready (rs := [11]) (by kernel_rfl) (by simp) ?_
      refine AllReadyH.cons rfl (fun K hK => ?_) AllReadyH.nil
      go_simp
      refine HRj.out.mono ?_
      rintro e w3 ⟨aoN, capN, rfl, hPN, hB3, hU3, hA3⟩
      dsimp only
      have HB3 := Lib.hid hB3
      have HU3 := Lib.hid hU3
      have HA3 := Lib.hid hA3
      have HPN := Lib.hid hPN
      have ca3 := (HCell.out w3 HB3.out).1
      have cb3 := (HCell.out w3 HB3.out).2
      refine hK.out _ _ ⟨ca3, cb3⟩ (fun hHeld => ?_)
      clear hPN hB3 hU3 hA3 ca cb
      clear hK K
      (try simp only [Act.put, List.setIfInBounds_toArray, List.set_cons_zero, List.set_cons_succ, List.getElem_toArray, List.getElem_cons_succ, List.getElem_cons_zero])
      refine wpAnyH_take (i := 12) (v := .tuple #[.slice aoN K2.length capN, .bool two]) rfl (by kernel_rfl) (by kernel_rfl) (by kernel_rfl) (fun _ _ _ h => h) (Or.inl ⟨by rfl, fun w hSw => by (try dsimp only at hSw); obtain ⟨hSw1, hSw2⟩ := hSw; go_simp⟩) hHeld ?_
      simp only [Act.put, List.setIfInBounds_toArray, List.set_cons_zero, List.set_cons_succ, List.getElem_toArray, List.getElem_cons_succ, List.getElem_cons_zero]
      refine wpAnyH_take (i := 13) (v := .slice aoN K2.length capN) rfl (by kernel_rfl) (by kernel_rfl) (by kernel_rfl) (fun _ _ _ h => h) (Or.inl ⟨by rfl, fun w hSw => by (try dsimp only at hSw); obtain ⟨hSw1, hSw2⟩ := hSw; go_simp⟩) hHeld ?_
      simp only [Act.put, List.setIfInBounds_toArray, List.set_cons_zero, List.set_cons_succ, List.getElem_toArray, List.getElem_cons_succ, List.getElem_cons_zero]
      refine wpAnyH_take (i := 14) (v := .bool two) rfl (by kernel_rfl) (by kernel_rfl) (by kernel_rfl) (fun _ _ _ h => h) (Or.inl ⟨by rfl, fun w hSw => by (try dsimp only at hSw); obtain ⟨hSw1, hSw2⟩ := hSw; go_simp⟩) hHeld ?_
      simp only [Act.put, List.setIfInBounds_toArray, List.set_cons_zero, List.set_cons_succ, List.getElem_toArray, List.getElem_cons_succ, List.getElem_cons_zero]
      refine wpAnyH_take (i := 15) (v := .slice aoN K2.length capN) rfl (by kernel_rfl) (by kernel_rfl) (by kernel_rfl) (fun _ _ _ h => h) (Or.inl ⟨by rfl, fun w hSw => by (try dsimp only at hSw); obtain ⟨hSw1, hSw2⟩ := hSw; go_simp⟩) hHeld ?_
      simp only [Act.put, List.setIfInBounds_toArray, List.set_cons_zero, List.set_cons_succ, List.getElem_toArray, List.getElem_cons_succ, List.getElem_cons_zero]
      refine wpAnyH_take (i := 16) (v := .bool two) rfl (by kernel_rfl) (by kernel_rfl) (by kernel_rfl) (fun _ _ _ h => h) (Or.inl ⟨by rfl, fun w hSw => by (try dsimp only at hSw); obtain ⟨hSw1, hSw2⟩ := hSw; go_simp⟩) hHeld ?_
      simp only [Act.put, List.setIfInBounds_toArray, List.set_cons_zero, List.set_cons_succ, List.getElem_toArray, List.getElem_cons_succ, List.getElem_cons_zero]
      refine wpAnyH_done (by kernel_rfl) ?_ _
      clear hHeld
      have ca := ca3
      have cb := cb3
      clear ca2 cb2 ca3 cb3
      have hbb : (two != two) = false := by cases two <;> rfl
      by_cases h0 : a = 0 ∨ b = 0
      · have hr0 := HWant.out h0
        subst hr0
        have hff : (((0 : Nat) : Int) != ((0 : Nat) : Int)) = false := by simp
        by_cases ha : a = 0
        · subst ha
          have ea : (((0 : Nat) : Int) != 0) = false := by decide
          go_wp2
          go_roundg (n - (k + 1))
          case measure => omega
          case rel => exact ⟨k + 1, K2, aoN, capN, by omega, by omega, by go_num, rfl, HPN.out, HE2.out, HB3.out, S2, HU3.out, HS2.out, HA3.out⟩
        · obtain rfl : b = 0 := by omega
          have ea : ((a : Int) != 0) = true := by rw [bne_iff_ne]; omega
          have eb : (((0 : Nat) : Int) != 0) = false := by decide
          go_wp2
          go_roundg (n - (k + 1))
          case measure => omega
          case rel => exact ⟨k + 1, K2, aoN, capN, by omega, by omega, by go_num, rfl, HPN.out, HE2.out, HB3.out, S2, HU3.out, HS2.out, HA3.out⟩
      · have ha : a ≠ 0 := by omega
        have hb : b ≠ 0 := by omega
        have hr2 := HWant2.out ha hb
        have ea : ((a : Int) != 0) = true := by rw [bne_iff_ne]; omega
        have eb : ((b : Int) != 0) = true := by rw [bne_iff_ne]; omega
        have hrr : ((r1 : Int) != (r1 : Int)) = false := by simp
        have HCl : Hid (Calls Try.prog 10 #[.slice aoN K2.length capN, .int .u32 (a : Int)] w3 fun e w' => ∃ g8 o8 ml c8, e = .returned (.slice (some ⟨g8, o8, none⟩) ml c8) ∧ 0 < ml ∧ w'.cell? ⟨g8, o8, none⟩ = some (.int .u32 (r1 : Int)) ∧ Below w3.heap.size w3 w') := Lib.hid (by
          have hk2 : K2.length ≤ 1000 := by have := HE2.out.few; rw [List.length_take] at this; omega
          refine (refClique_any (cap := capN) a HPN.out hk2 HE2.out.nz).mono ?_
          rintro e w' ⟨a8, c8, rfl, h1, h2⟩
          obtain ⟨t, ht⟩ := cliqueJ_head (J := K2) ha
          have hlp : 0 < (cliqueJ K2 a).length := by rw [ht]; simp
          obtain ⟨g8, o8, rfl, hc⟩ := h1 hlp
          refine ⟨g8, o8, _, c8, rfl, hlp, ?_, h2⟩
          rw [hr2, ← leastJ_same (fun x y => HE2.out.con x y) a]
          exact hc 0 _ (by rw [ht]; rfl))
        clear hr2 h0
        go_wp2_with (go_at_call 10; refine HCl.out.mono ?_; rintro e w4 ⟨g8, o8, ml, c8, rfl, hml, hc8, hB4⟩; have hml2 : (0 : Int) < (ml : Int) := (by omega); replace hB4 := Lib.hid hB4)
        go_roundg (n - (k + 1))
        case measure => omega
        case rel => exact ⟨k + 1, K2, aoN, capN, by omega, by omega, by go_num, rfl, HPN.out.below hB4.out, HE2.out, HB3.out.trans (hB4.out.mono HB3.out.size), S2, HU3.out.below hB4.out, HS2.out, HA3.out⟩
end Go.Proofs.Ytloonndeojfepaa
