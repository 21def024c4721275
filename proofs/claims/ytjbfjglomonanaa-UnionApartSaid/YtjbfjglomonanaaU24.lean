/-
  WHAT THE PROOF STANDS ON, a part of it: UnTwo, UnKnown, UnOrder, UnRefP.
-/
import Derived.Test.YtjbfjglomonanaaU23
import Derived.Deep.RegionHeld3
import Derived.Test.YtjbfjglomonanaaU2
/-
  A PARTITION OF JOINS, AND TWO SIDE BY SIDE: contracts as a caller wants them.
-/

namespace Go.Proofs.Ytjbfjglomonanaa
open Go.RowKit
set_option linter.unusedVariables false
set_option linter.unusedSimpArgs false

/-- The partition of a row of joins. -/
def runA (J : List (Nat × Nat)) : PartA := J.foldl (fun A x => (joinA A x.1 x.2).1) ⟨fun _ => none, fun _ => none⟩
theorem runA_snoc (J : List (Nat × Nat)) (a b : Nat) : runA (J ++ [(a, b)]) = (joinA (runA J) a b).1 := by
  unfold runA
  rw [List.foldl_append]
  rfl
theorem runA_of (J : List (Nat × Nat)) : OfJ J (runA J) := by
  have key : ∀ n (J : List (Nat × Nat)), J.length = n → OfJ J (runA J) := by
    intro n
    induction n with
    | zero =>
      intro J h
      rw [List.eq_nil_of_length_eq_zero h]
      exact ofJ_nil
    | succ n ih =>
      intro J h
      obtain ⟨K, x, rfl⟩ : ∃ K x, J = K ++ [x] := by
        have hne : J ≠ [] := by intro e; rw [e] at h; simp at h
        exact ⟨J.dropLast, J.getLast hne, (List.dropLast_concat_getLast hne).symm⟩
      obtain ⟨a, b⟩ := x
      rw [runA_snoc]
      exact (ih K (by simpa using h)).join a b
  exact key _ J rfl
theorem con_num {J : List (Nat × Nat)} {x y : Nat} (h : Con J x y) : x = y ∨ (x ∈ J.map (·.1) ++ J.map (·.2) ∧ y ∈ J.map (·.1) ++ J.map (·.2)) := by
  induction h with
  | refl a => exact .inl rfl
  | base h _ _ => exact .inr ⟨List.mem_append_left _ (List.mem_map.2 ⟨_, h, rfl⟩), List.mem_append_right _ (List.mem_map.2 ⟨_, h, rfl⟩)⟩
  | symm _ ih =>
    rcases ih with ih | ⟨h1, h2⟩
    · exact .inl ih.symm
    · exact .inr ⟨h2, h1⟩
  | trans _ _ i1 i2 =>
    rcases i1 with rfl | ⟨h1, h2⟩
    · exact i2
    · rcases i2 with rfl | ⟨h3, h4⟩
      · exact .inr ⟨h1, h2⟩
      · exact .inr ⟨h1, h4⟩
theorem runA_few (J : List (Nat × Nat)) (x : Nat) : (lookA (runA J) x).2.2.length ≤ 1 + 2 * J.length := by
  obtain ⟨g, m, _⟩ := (runA_of J).inv.look x
  have := nodup_le g.nodup (k := x :: (J.map (·.1) ++ J.map (·.2))) fun y hy => by
    rcases con_num (((runA_of J).con x y).2 ((m y).1 hy)) with rfl | ⟨_, h⟩
    · exact List.mem_cons_self ..
    · exact List.mem_cons_of_mem _ h
  simp only [List.length_cons, List.length_append, List.length_map] at this
  omega
def UnI (W : World) (S : Nat → Prop) (pb : Nat) (J : List (Nat × Nat)) : Prop := ∃ nb cb cl, PartI W S pb nb cb (runA J) cl
section
variable {w W U : World} {S T : Nat → Prop} {pb : Nat} {J : List (Nat × Nat)}
theorem UnI.below (h : UnI W S pb J) (k : Below W.heap.size W U) : UnI U S pb J := by
  obtain ⟨nb, cb, cl, h⟩ := h
  exact ⟨nb, cb, cl, h.below k⟩
theorem UnI.beside (h : UnI W S pb J) (k : Turned T W U) (hn : ∀ j, S j → ¬ T j) : UnI U S pb J := by
  obtain ⟨nb, cb, cl, h⟩ := h
  exact ⟨nb, cb, cl, h.beside k hn⟩
theorem UnI.lt (h : UnI W S pb J) : ∀ j, S j → j < W.heap.size := by
  obtain ⟨nb, cb, cl, h⟩ := h
  exact h.lt
theorem UnI.wide (h : UnI W S pb J) (hs : ∀ j, S j → T j) (hl : ∀ j, T j → j < W.heap.size) : UnI W T pb J := by
  obtain ⟨nb, cb, cl, h⟩ := h
  exact ⟨nb, cb, cl, h.wide hs hl⟩
abbrev unP (pb : Nat) : Value := .pointer (some ⟨pb, 0, none⟩)
theorem UnI.join (h : UnI w S pb J) (hJ : J.length ≤ 1000) (a b : Nat) : Calls Try.prog 8 #[unP pb, .int .u32 (a : Int), .int .u32 (b : Int)] w fun e w' =>
    e = .returned (.tuple #[.int .u32 ((joinA (runA J) a b).2.1 : Int), .bool (joinA (runA J) a b).2.2]) ∧ Turned S w w' ∧ UnI w' (growS S w w') pb (J ++ [(a, b)]) := by
  obtain ⟨nb, cb, cl, h⟩ := h
  refine (join_any h (runA_of J).inv (fun x => by have := runA_few J x; omega) a b).mono ?_
  rintro e w' ⟨rfl, h1, cl', h2, _⟩
  exact ⟨rfl, h1, nb, cb, cl', by rw [runA_snoc]; exact h2⟩
/-- Who stands for a number. -/
def leastJ (J : List (Nat × Nat)) (x : Nat) : Nat := (lookA (runA J) x).2.1
def cliqueJ (J : List (Nat × Nat)) (x : Nat) : List Nat := cliqueL (runA J) x
theorem UnI.find (h : UnI w S pb J) (x : Nat) : Calls Try.prog 14 #[unP pb, .int .u32 (x : Int)] w fun e w' => e = .returned (.int .u32 (leastJ J x : Int)) ∧ w' = w := by
  obtain ⟨nb, cb, cl, h⟩ := h
  refine (find_any h.mem x).mono ?_
  rintro e w' ⟨rfl, rfl⟩
  refine ⟨?_, rfl⟩
  have : findF (runA J).nm cl x = leastJ J x := by
    unfold findF leastJ lookA
    cases hn : (runA J).nm x with
    | none => rfl
    | some n =>
      obtain ⟨⟨m, ns⟩, hab⟩ := Option.isSome_iff_exists.1 (h.named x n hn)
      have hl := h.lists n
      rw [hab] at hl
      obtain ⟨ao, cap, e, _⟩ := hl
      simp only [e, hab]
      rfl
  rw [this]
theorem UnI.clique (h : UnI w S pb J) (hJ : J.length ≤ 1000) (x : Nat) : Calls Try.prog 13 #[unP pb, .int .u32 (x : Int)] w fun e w' =>
    ∃ ao cap, e = .returned (.slice ao (cliqueJ J x).length cap) ∧ NumsR w' ao (cliqueJ J x) ∧ Below w.heap.size w w' := by
  obtain ⟨nb, cb, cl, h⟩ := h
  exact cliqueOf_any h x (by have := runA_few J x; omega)
/-- How many cliques there are: one number for all partitions of the same joins. -/
def CountOf (A : PartA) (N : Nat) : Prop := ∀ ks : List Nat, ks.Nodup → (∀ r, r ∈ ks ↔ (A.ab r).isSome = true) → ks.length = N
theorem UnI.len (h : UnI w S pb J) {N : Nat} (hN : CountOf (runA J) N) : Calls Try.prog 15 #[unP pb] w fun e w' => e = .returned (.int .i64 (N : Int)) ∧ w' = w := by
  obtain ⟨nb, cb, cl, h⟩ := h
  refine (len_any h).mono ?_
  rintro e w' ⟨⟨ks, rfl, h1, h2⟩, rfl⟩
  refine ⟨?_, rfl⟩
  rw [hN ks h1 fun r => ?_]
  rw [h2]
  have hl := h.lists r
  cases hab : (runA J).ab r with
  | none =>
    rw [hab] at hl
    have hl : cl r = none := hl
    rw [hl]
    exact ⟨fun h => (by cases h), fun h => (by cases h)⟩
  | some x =>
    obtain ⟨m, ns⟩ := x
    rw [hab] at hl
    obtain ⟨ao, cap, e, _⟩ := hl
    rw [e]
    exact ⟨fun _ => rfl, fun _ => rfl⟩
theorem cliqueJ_same {J K : List (Nat × Nat)} (h : ∀ x y, Con J x y ↔ Con K x y) (x : Nat) : cliqueJ J x = cliqueJ K x :=
  clique_same (runA_of J).inv (runA_of K).inv (fun x y => by rw [← (runA_of J).con, ← (runA_of K).con, h]) x
/-- A new one. -/
theorem unNew (w : World) : Calls Try.prog 7 #[] w fun e w' => ∃ pb, e = .returned (unP pb) ∧ Below w.heap.size w w' ∧ UnI w' (fun j => w.heap.size ≤ j ∧ j < w'.heap.size) pb [] := by
  refine (new_any w).mono ?_
  rintro e w' ⟨rfl, hb, hs, h1, h2, h3⟩
  refine ⟨_, rfl, hb, w.heap.size, w.heap.size + 1, fun _ => none, ?_⟩
  exact {
    mem := ⟨h3, MapU.new h1, MapU.new h2⟩
    ne := by omega
    sP := ⟨by omega, by omega⟩
    sN := ⟨by omega, by omega⟩
    sC := ⟨by omega, by omega⟩
    lt := fun j hj => hj.2
    lists := fun n => rfl
    apart := fun n n' c c' _ h => by cases h
    named := fun a n h => by cases h }
/-- Two of them, apart, and all that was below B. -/
def TwoI (B : Nat) (w W : World) (pb qb : Nat) (J K : List (Nat × Nat)) : Prop := Below B w W ∧ ∃ S T : Nat → Prop, UnI W S pb J ∧ UnI W T qb K ∧ (∀ j, S j → ¬ T j) ∧ (∀ j, S j → B ≤ j) ∧ (∀ j, T j → B ≤ j)
variable {B : Nat} {qb : Nat} {K : List (Nat × Nat)}
theorem TwoI.below (h : TwoI B w W pb qb J K) (hB : B ≤ W.heap.size) (k : Below W.heap.size W U) : TwoI B w U pb qb J K := by
  obtain ⟨h0, S, T, h1, h2, h3⟩ := h
  exact ⟨h0.trans (k.mono hB), S, T, h1.below k, h2.below k, h3⟩
theorem TwoI.swap (h : TwoI B w W pb qb J K) : TwoI B w W qb pb K J := by
  obtain ⟨h0, S, T, h1, h2, h3, h4, h5⟩ := h
  exact ⟨h0, T, S, h2, h1, fun j hj hs => h3 j hs hj, h5, h4⟩
theorem TwoI.join (h : TwoI B w W pb qb J K) (hB : B ≤ W.heap.size) (hJ : J.length ≤ 1000) (a b : Nat) : Calls Try.prog 8 #[unP pb, .int .u32 (a : Int), .int .u32 (b : Int)] W fun e w' =>
    e = .returned (.tuple #[.int .u32 ((joinA (runA J) a b).2.1 : Int), .bool (joinA (runA J) a b).2.2]) ∧ TwoI B w w' pb qb (J ++ [(a, b)]) K := by
  obtain ⟨h0, S, T, h1, h2, h3, h4, h5⟩ := h
  refine (h1.join hJ a b).mono ?_
  rintro e w' ⟨rfl, ht, hu⟩
  refine ⟨rfl, h0.trans (ht.below hB h4), growS S W w', T, hu, h2.beside ht (fun j hj hs => h3 j hs hj), fun j hj hT => ?_, fun j hj => ?_, h5⟩
  · rcases hj with hj | hj
    · exact h3 j hj hT
    · have := h2.lt j hT
      omega
  · rcases hj with hj | hj
    · exact h4 j hj
    · omega
end
end Go.Proofs.Ytjbfjglomonanaa

/-
  CONTRACTS OF known, equal.
-/

namespace Go.Proofs.Ytjbfjglomonanaa
open Go.RowKit
set_option linter.unusedVariables false
set_option linter.unusedSimpArgs false

theorem known_cl : cliqueJ [(5, 3), (3, 9)] 5 = [3, 5, 9] := by
  refine rise_eq (sort_rise ?_) (by decide) fun x => ?_
  · decide +kernel
  · unfold cliqueJ cliqueL
    rw [if_neg (by decide), (List.mergeSort_perm _ _).mem_iff]
    have : (lookA (runA [(5, 3), (3, 9)]) 5).2.2 = [5, 3, 9] := by decide +kernel
    rw [this]
    simp only [List.mem_cons, List.not_mem_nil, or_false]
    omega
set_option maxRecDepth 100000 in
theorem known_any (w : World) : Calls Try.prog 6 #[] w fun e w' => e = .returned (.bool true) ∧ Below w.heap.size w w' := by
  have HN := Lib.hid (unNew w)
  have v1 : joinA (runA []) 5 3 = ((joinA (runA []) 5 3).1, 3, true) := by
    refine Prod.ext rfl (Prod.ext ?_ ?_) <;> decide +kernel
  have v2 : (joinA (runA [(5, 3)]) 3 9).2.1 = 3 ∧ (joinA (runA [(5, 3)]) 3 9).2.2 = true := by decide +kernel
  have v3 : leastJ [(5, 3), (3, 9)] 9 = 3 := by decide +kernel
  have V1 := Lib.hid v1
  have V2 := Lib.hid v2
  have V3 := Lib.hid v3
  clear v1 v2 v3
  go_enter Try.func6, Try.ntmps6
  go_upto_region 2 with (go_at_call 7; refine HN.out.mono ?_; rintro e w1 ⟨pb, rfl, h1, h2⟩; replace h1 := Lib.hid h1; replace h2 := Lib.hid h2)
  have HJ1 : Hid (Calls Try.prog 8 #[unP pb, .int .u32 5, .int .u32 3] w1 fun e w' => e = .returned (.tuple #[.int .u32 3, .bool true]) ∧ Below w.heap.size w w' ∧ ∃ S, UnI w' S pb [(5, 3)] ∧ ∀ j, S j → w.heap.size ≤ j) := Lib.hid ((h2.out.join (by simp) 5 3).mono (by
    rintro e w' ⟨rfl, ht, hu⟩
    refine ⟨by rw [V1.out]; rfl, h1.out.trans (ht.below h1.out.size (fun j hj => hj.1)), _, hu, fun j hj => ?_⟩
    rcases hj with hj | hj
    · exact hj.1
    · have := h1.out.size
      omega))
  go_upto_region 3 with (go_at_call 8; refine HJ1.out.mono ?_; rintro e w2 ⟨rfl, h3, S, h4, h5⟩; replace h3 := Lib.hid h3; replace h4 := Lib.hid h4; replace h5 := Lib.hid h5)
  have HJ2 : Hid (Calls Try.prog 8 #[unP pb, .int .u32 3, .int .u32 9] w2 fun e w' => e = .returned (.tuple #[.int .u32 3, .bool true]) ∧ Below w.heap.size w w' ∧ ∃ S, UnI w' S pb [(5, 3), (3, 9)]) := Lib.hid ((h4.out.join (by simp) 3 9).mono (by
    rintro e w' ⟨rfl, ht, hu⟩
    exact ⟨by rw [V2.out.1, V2.out.2]; rfl, h3.out.trans (ht.below h3.out.size h5.out), _, hu⟩))
  go_upto_region 4 with (go_at_call 8; refine HJ2.out.mono ?_; rintro e w3 ⟨rfl, h6, S2, h7⟩; replace h6 := Lib.hid h6; replace h7 := Lib.hid h7)
  have HCl : Hid (Calls Try.prog 13 #[unP pb, .int .u32 5] w3 fun e w' => (∃ g o cap, e = .returned (.slice (some ⟨g, o, none⟩) 3 cap) ∧ w'.cell? ⟨g, o, none⟩ = some (.int .u32 3) ∧ w'.cell? ⟨g, o + 1, none⟩ = some (.int .u32 5) ∧ w'.cell? ⟨g, o + 2, none⟩ = some (.int .u32 9)) ∧ Below w.heap.size w w' ∧ UnI w' S2 pb [(5, 3), (3, 9)]) := Lib.hid ((h7.out.clique (by simp) 5).mono (by
    rintro e w' ⟨ao, cap, rfl, hn, hb⟩
    rw [known_cl] at hn ⊢
    obtain ⟨g, o, rfl, hc⟩ := hn (by simp)
    exact ⟨⟨g, o, cap, rfl, hc 0 3 rfl, hc 1 5 rfl, hc 2 9 rfl⟩, h6.out.trans (hb.mono h6.out.size), h7.out.below hb⟩))
  go_upto_region 5 with (go_at_call 13; refine HCl.out.mono ?_; rintro e w4 ⟨⟨g, o, cap, rfl, k0, k1, k2⟩, h8, h9⟩; replace h8 := Lib.hid h8; replace h9 := Lib.hid h9)
  have HFi : Hid (Calls Try.prog 14 #[unP pb, .int .u32 9] w4 fun e w' => e = .returned (.int .u32 3) ∧ w4 = w') := Lib.hid ((h9.out.find 9).mono (by
    rintro e w' ⟨rfl, rfl⟩
    exact ⟨by rw [V3.out]; rfl, rfl⟩))
  go_wp2_with (go_at_call 14; refine HFi.out.mono ?_; rintro e w5 ⟨rfl, rfl⟩)
  go_ret
  exact ⟨rfl, h8.out⟩
theorem below_drewU {B : Nat} {u w : World} (h : Below B u w) (n : Nat) : Below B u (w.drewN n) := ⟨h.os, h.tape, h.output, h.size, h.block⟩
set_option maxRecDepth 100000 in
theorem equal_any {w : World} {ao bo : Option Addr} {ca cb : Nat} {l k : List Nat} (ha : NumsR w ao l) (hb : NumsR w bo k) (hle : l.length ≤ 1000000000) : Calls Try.prog 12 #[.slice ao l.length ca, .slice bo k.length cb] w fun e w' => e = .returned (.bool (decide (l = k))) ∧ Below w.heap.size w w' := by
  have HA := Lib.hid ha
  have HB := Lib.hid hb
  clear ha hb
  by_cases hl : l.length = k.length
  · have e1 : ((l.length : Int) != (k.length : Int)) = false := by rw [bne_eq_false_iff_eq]; omega
    have HL := Lib.hid hl
    obtain ⟨n, hn⟩ : ∃ n, n = l.length := ⟨_, rfl⟩
    obtain ⟨m, hm⟩ : ∃ m, m = k.length := ⟨_, rfl⟩
    rw [← hn, ← hm] at e1
    rw [← hn, ← hm]
    have HN := Lib.hid hn
    have HM := Lib.hid hm
    have hnle : n ≤ 1000000000 := by omega
    clear hn hm hl hle
    go_enter Try.func12, Try.ntmps12
    go_wp2
    go_loopg [5] n (fun gg i wr => ∃ q : Nat, q ≤ n ∧ n - q ≤ gg ∧ i = .int .i64 (q : Int) ∧ (∀ j, j < q → l[j]? = k[j]?) ∧ Below w.heap.size w wr)
    case atStart => exact ⟨0, by omega, by omega, rfl, fun j hj => absurd hj (by omega), Below.refl _ _⟩
    case round =>
      obtain ⟨q, hq, hg, rfl, hs, hbe⟩ := hrel
      obtain rfl | hqn : q = n ∨ q < n := by omega
      · have HE : Hid (decide (l = k) = true) := Lib.hid (decide_eq_true (by
          apply List.ext_getElem?
          intro j
          by_cases hj : j < q
          · exact hs j hj
          · rw [List.getElem?_eq_none (by have := HN.out; omega), List.getElem?_eq_none (by have := HM.out; have := HL.out; have := HN.out; omega)]))
        have HBe := Lib.hid hbe
        clear hs hbe
        go_wp2
        go_ret
        exact ⟨by rw [HE.out]; rfl, HBe.out⟩
      · have hql : q < l.length := by have := HN.out; omega
        have hqk : q < k.length := by have := HL.out; omega
        obtain ⟨g, o, rfl, hc⟩ := HA.out (by omega)
        obtain ⟨g2, o2, rfl, hc2⟩ := HB.out (by omega)
        have c1 := hc q _ (List.getElem?_eq_getElem hql)
        have c2 := hc2 q _ (List.getElem?_eq_getElem hqk)
        have c1 := (hbe.cell (p := ⟨g, o + q, none⟩) (World.block_lt_of_cell? _ _ c1)).trans c1
        have c2 := (hbe.cell (p := ⟨g2, o2 + q, none⟩) (World.block_lt_of_cell? _ _ c2)).trans c2
        have hqm : (q : Int) < (m : Int) := by have := HM.out; omega
        obtain ⟨x, hx⟩ : ∃ x, x = l[q] := ⟨_, rfl⟩
        obtain ⟨y, hy⟩ : ∃ y, y = k[q] := ⟨_, rfl⟩
        rw [← hx] at c1
        rw [← hy] at c2
        have e4 : decide ((q : Int) < (n : Int)) = true := decide_eq_true (by omega)
        by_cases hxy : x = y
        · have e2 : ((x : Int) != (y : Int)) = false := by rw [bne_eq_false_iff_eq, hxy]
          have HS : Hid (∀ j, j < q + 1 → l[j]? = k[j]?) := Lib.hid (fun j hj => by
            by_cases e : j = q
            · subst e
              rw [List.getElem?_eq_getElem hql, List.getElem?_eq_getElem hqk, ← hx, ← hy, hxy]
            · exact hs j (by omega))
          have HBe := Lib.hid hbe
          clear hs hbe hc hc2 hx hy hxy
          go_upto_region 6 with fail
          go_quiet (fail)
          go_wp2
          go_roundg (n - (q + 1))
          case measure => omega
          case rel => exact ⟨q + 1, by omega, by omega, by go_num, HS.out, below_drewU HBe.out _⟩
        · have e2 : ((x : Int) != (y : Int)) = true := by rw [bne_iff_ne]; omega
          have HE : Hid (decide (l = k) = false) := Lib.hid (decide_eq_false (fun e => hxy (by rw [hx, hy]; subst e; rfl)))
          have HBe := Lib.hid hbe
          clear hs hbe hc hc2 hx hy hxy
          go_upto_region 6 with fail
          go_quiet (fail)
          go_wp2
          go_ret
          exact ⟨by rw [HE.out]; rfl, below_drewU HBe.out _⟩
  · have e1 : ((l.length : Int) != (k.length : Int)) = true := by rw [bne_iff_ne]; omega
    have HE : Hid (decide (l = k) = false) := Lib.hid (decide_eq_false (fun e => hl (by rw [e])))
    clear hl
    go_enter Try.func12, Try.ntmps12
    go_wp2
    go_ret
    exact ⟨by rw [HE.out]; rfl, Below.refl _ _⟩
end Go.Proofs.Ytjbfjglomonanaa

/-
  THE WALK OF UnionOrder.
-/

namespace Go.Proofs.Ytjbfjglomonanaa
open Go.RowKit
set_option linter.unusedVariables false
set_option linter.unusedSimpArgs false

/-- Pairs of numbers in memory. -/
def PairR (W : World) (ao : Option Addr) (l : List (Nat × Nat)) : Prop := 0 < l.length → ∃ g o, ao = some ⟨g, o, none⟩ ∧ ∀ j x, l[j]? = some x → W.cell? ⟨g, o + j * 2, none⟩ = some (.int .u32 (x.1 : Int)) ∧ W.cell? ⟨g, o + j * 2 + 1, none⟩ = some (.int .u32 (x.2 : Int))
theorem PairR.below {W U : World} {ao : Option Addr} {l : List (Nat × Nat)} (h : PairR W ao l) (hB : Below W.heap.size W U) : PairR U ao l := fun hl => by
  obtain ⟨g, o, e, hc⟩ := h hl
  exact ⟨g, o, e, fun j k hj => ⟨(hB.cell (p := ⟨g, o + j * 2, none⟩) (World.block_lt_of_cell? W _ (hc j k hj).1)).trans (hc j k hj).1, (hB.cell (p := ⟨g, o + j * 2 + 1, none⟩) (World.block_lt_of_cell? W _ (hc j k hj).2)).trans (hc j k hj).2⟩⟩
theorem cliqueJ_few (J : List (Nat × Nat)) (x : Nat) (h : J.length ≤ 1000) : (cliqueJ J x).length ≤ 1000000000 := by
  unfold cliqueJ cliqueL
  have := runA_few J x
  split
  · simp
  · rw [List.length_mergeSort]
    omega
end Go.Proofs.Ytjbfjglomonanaa

/-
  THE REFERENCE'S In, Put: contracts.
-/

namespace Go.Proofs.Ytjbfjglomonanaa
open Go.RowKit
set_option linter.unusedVariables false
set_option linter.unusedSimpArgs false

set_option maxRecDepth 100000 in
theorem refIn_any {ao : Option Addr} {cap : Nat} {l : List Nat} (a : Nat) {w : World} (h : ElR keyU w ao l) (hle : l.length ≤ 1000000) : Calls Try.prog 20 #[.slice ao l.length cap, .int .u32 (a : Int)] w fun e w' => e = .returned (.bool (decide (a ∈ l))) ∧ w' = w := by
  have H := Lib.hid h
  clear h
  obtain ⟨n, hn⟩ : ∃ n, n = l.length := ⟨_, rfl⟩
  rw [← hn] at hle ⊢
  have HN := Lib.hid hn
  clear hn
  go_enter Try.func20, Try.ntmps20
  go_wp2
  go_loopg [5] n (fun gg i wr => ∃ k : Nat, k ≤ n ∧ n - k ≤ gg ∧ i = .int .i64 (k : Int) ∧ a ∉ l.take k ∧ w = wr)
  case atStart => exact ⟨0, by omega, by omega, rfl, by simp, rfl⟩
  case round =>
    obtain ⟨k, hk, hg, rfl, hna, rfl⟩ := hrel
    obtain rfl | hkn : k = n ∨ k < n := by omega
    · have HE : Hid (decide (a ∈ l) = false) := Lib.hid (decide_eq_false (by rwa [List.take_of_length_le (by have := HN.out; omega)] at hna))
      clear hna
      go_wp2
      go_ret
      exact ⟨by rw [HE.out]; rfl, rfl⟩
    · have hkl : k < l.length := by have := HN.out; omega
      obtain ⟨g, o, rfl, hc⟩ := H.out (by omega)
      have c0 := hc k _ (List.getElem?_eq_getElem hkl)
      obtain ⟨x, hx⟩ : ∃ x, x = l[k] := ⟨_, rfl⟩
      rw [← hx] at c0
      have e4 : decide ((k : Int) < (n : Int)) = true := decide_eq_true (by omega)
      by_cases he : x = a
      · have e5 : ((x : Int) == (a : Int)) = true := by rw [beq_iff_eq, he]
        have HE : Hid (decide (a ∈ l) = true) := Lib.hid (decide_eq_true (by rw [← he, hx]; exact List.getElem_mem hkl))
        clear hna hc hx he
        go_wp2
        go_ret
        exact ⟨by rw [HE.out]; rfl, rfl⟩
      · have e5 : ((x : Int) == (a : Int)) = false := by rw [beq_eq_false_iff_ne]; omega
        have HNx : Hid (a ∉ l.take (k + 1)) := Lib.hid (by
          rw [List.take_add_one, List.getElem?_eq_getElem hkl, ← hx]
          intro hm
          rcases List.mem_append.1 hm with hm | hm
          · exact hna hm
          · simp at hm
            exact he hm.symm)
        clear hna hc hx he
        go_wp2
        go_roundg (n - (k + 1))
        case measure => omega
        case rel => exact ⟨k + 1, by omega, by omega, by go_num, HNx.out, rfl⟩
def stepP (a : Nat) (s : List Nat × Bool) (x : Nat) : List Nat × Bool := if s.2 = false ∧ a < x then (s.1 ++ [a, x], true) else (s.1 ++ [x], s.2)
/-- A number put into a rising list. -/
def putL (l : List Nat) (a : Nat) : List Nat := if (l.foldl (stepP a) ([], false)).2 then (l.foldl (stepP a) ([], false)).1 else (l.foldl (stepP a) ([], false)).1 ++ [a]
theorem fold_done (a : Nat) : ∀ (l acc : List Nat), l.foldl (stepP a) (acc, true) = (acc ++ l, true)
  | [], acc => by simp
  | x :: l, acc => by
    rw [List.foldl_cons]
    have : stepP a (acc, true) x = (acc ++ [x], true) := by simp [stepP]
    rw [this, fold_done a l]
    simp
theorem fold_put (a : Nat) : ∀ (l acc : List Nat), l.Pairwise (· < ·) → a ∉ l → l.foldl (stepP a) (acc, false) = (if ∃ x ∈ l, a < x then (acc ++ l.filter (fun x => decide (x < a)) ++ [a] ++ l.filter (fun x => decide (a < x)), true) else (acc ++ l, false))
  | [], acc, _, _ => by simp
  | x :: l, acc, hp, hn => by
    rw [List.pairwise_cons] at hp
    rw [List.foldl_cons]
    by_cases h : a < x
    · have e : stepP a (acc, false) x = (acc ++ [a, x], true) := by simp [stepP, h]
      rw [e, fold_done, if_pos ⟨x, by simp, h⟩]
      have f1 : (x :: l).filter (fun x => decide (x < a)) = [] := by
        rw [List.filter_eq_nil_iff]
        intro y hy
        rcases List.mem_cons.1 hy with rfl | hy
        · simp; omega
        · have := hp.1 y hy
          simp; omega
      have f2 : (x :: l).filter (fun x => decide (a < x)) = x :: l := by
        rw [List.filter_eq_self]
        intro y hy
        rcases List.mem_cons.1 hy with rfl | hy
        · simpa using h
        · have := hp.1 y hy
          simp; omega
      rw [f1, f2]
      simp
    · have hx : x < a := by
        have : x ≠ a := fun e => hn (by simp [e])
        omega
      have e : stepP a (acc, false) x = (acc ++ [x], false) := by simp [stepP, h]
      rw [e, fold_put a l _ hp.2 (fun hm => hn (by simp [hm]))]
      by_cases h2 : ∃ y ∈ l, a < y
      · have h3 : ∃ y ∈ x :: l, a < y := by
          obtain ⟨y, hy, hay⟩ := h2
          exact ⟨y, by simp [hy], hay⟩
        rw [if_pos h2, if_pos h3]
        simp [List.filter_cons, hx, h]
      · have h3 : ¬ ∃ y ∈ x :: l, a < y := by
          rintro ⟨y, hy, hay⟩
          rcases List.mem_cons.1 hy with rfl | hy
          · exact h hay
          · exact h2 ⟨y, hy, hay⟩
        rw [if_neg h2, if_neg h3]
        simp
theorem putL_is {l : List Nat} {a : Nat} (hp : l.Pairwise (· < ·)) (hn : a ∉ l) : (putL l a).Pairwise (· < ·) ∧ (∀ x, x ∈ putL l a ↔ x ∈ l ∨ x = a) ∧ (putL l a).length = l.length + 1 := by
  unfold putL
  rw [fold_put a l [] hp hn]
  by_cases h : ∃ x ∈ l, a < x
  · rw [if_pos h]
    dsimp only
    rw [if_pos rfl, List.nil_append]
    have hp1 : (l.filter (fun x => decide (x < a))).Pairwise (· < ·) := hp.filter _
    have hp2 : (l.filter (fun x => decide (a < x))).Pairwise (· < ·) := hp.filter _
    have hpw : (l.filter (fun x => decide (x < a)) ++ [a] ++ l.filter (fun x => decide (a < x))).Pairwise (· < ·) := by
      rw [List.append_assoc, List.pairwise_append]
      refine ⟨hp1, ?_, ?_⟩
      · rw [List.singleton_append, List.pairwise_cons]
        refine ⟨fun y hy => ?_, hp2⟩
        simpa using (List.mem_filter.1 hy).2
      · intro x hx y hy
        have hx := of_decide_eq_true (List.mem_filter.1 hx).2
        rcases List.mem_cons.1 hy with rfl | hy
        · exact hx
        · have := of_decide_eq_true (List.mem_filter.1 hy).2
          omega
    have hm : ∀ x, x ∈ l.filter (fun x => decide (x < a)) ++ [a] ++ l.filter (fun x => decide (a < x)) ↔ x ∈ l ∨ x = a := fun x => by
      simp only [List.mem_append, List.mem_filter, List.mem_singleton, decide_eq_true_eq]
      constructor
      · rintro ((⟨h1, _⟩ | h1) | ⟨h1, _⟩)
        · exact .inl h1
        · exact .inr h1
        · exact .inl h1
      · rintro (h1 | h1)
        · rcases Nat.lt_trichotomy x a with h2 | h2 | h2
          · exact .inl (.inl ⟨h1, h2⟩)
          · exact .inl (.inr h2)
          · exact .inr ⟨h1, h2⟩
        · exact .inl (.inr h1)
    refine ⟨hpw, hm, ?_⟩
    have hnd := hpw.imp (fun {a b} h => Nat.ne_of_lt h)
    have hnl := hp.imp (fun {a b} h => Nat.ne_of_lt h)
    have hna : (a :: l).Nodup := List.nodup_cons.2 ⟨hn, hnl⟩
    have l1 := nodup_le (k := a :: l) hnd fun x hx => by
      rcases (hm x).1 hx with h1 | h1
      · exact List.mem_cons_of_mem _ h1
      · rw [h1]; exact List.mem_cons_self ..
    have l2 := nodup_le hna (k := l.filter (fun x => decide (x < a)) ++ [a] ++ l.filter (fun x => decide (a < x))) fun x hx => by
      rcases List.mem_cons.1 hx with h1 | h1
      · exact (hm x).2 (.inr h1)
      · exact (hm x).2 (.inl h1)
    rw [List.length_cons] at l1 l2
    omega
  · rw [if_neg h]
    dsimp only
    rw [if_neg (by simp), List.nil_append]
    refine ⟨?_, fun x => by simp, by simp⟩
    rw [List.pairwise_append]
    refine ⟨hp, by simp, fun x hx y hy => ?_⟩
    rw [List.mem_singleton] at hy
    subst hy
    have h1 : x ≠ y := fun e => hn (e ▸ hx)
    have h2 : ¬ y < x := fun h3 => h ⟨x, hx, h3⟩
    omega
end Go.Proofs.Ytjbfjglomonanaa

