/-
  CONTRACT OF table's matched: the walk.
-/
import Derived.Test.YtnmimagcmmdolaaTbMatched
namespace Go.Proofs.Ytnmimagcmmdolaa
open Go.RowKit Go.Shelf
set_option linter.unusedVariables false
set_option linter.unusedSimpArgs false

section
variable {B : Nat} {Gz : GzT} {w : World} {S : Nat → Prop} {tb : Nat} {R : List EntN}
/-- What matched answers. -/
def MatR (B : Nat) (Gz : GzT) (w : World) (S : Nat → Prop) (tb : Nat) (R : List EntN) (ns : List Nat) (e : Ending) (w' : World) : Prop :=
  ∃ gf lb Q Gz', e = .returned (.func (.func gf) #[] lb) ∧ Below w.heap.size w w' ∧ TabI B Gz' w' S tb R ∧ (∀ g i v, Gz g i v → Gz' g i v) ∧ Iter B Gz' tb w w' gf lb Q ns
theorem getD_rows {R : List EntN} {n : Nat} {x : EntN} (hx : R[n]? = some x) : (R.map (·.1)).getD n (0, 0, 0) = x.1 := by
  rw [List.getD_eq_getElem?_getD, List.getElem?_map, hx]
  rfl
set_option maxRecDepth 100000 in
set_option maxHeartbeats 4000000 in
theorem TabI.matched (h : TabI B Gz w S tb R) (q : RowN) (hq : okN q) (lo hi : Int) :
    Calls Try.prog 35 #[tabP tb, rowV q, .int .i64 lo, .int .i64 hi] w (MatR B Gz w S tb R (candR R q lo hi)) := by
  have hfew := h.few
  have HL : Hid (∀ U, Below w.heap.size w U → Calls Try.prog 17 #[tabP tb] U fun e w' => e = .returned (.int .i64 (R.length : Int)) ∧ U = w') := Lib.hid (fun U hU => (h.below hU).len)
  have hc0 := heap_alloc_new w (.cells (rowC q) 34)
  have hb0 := (Below.refl w.heap.size w).alloc (Nat.le_refl _) (.cells (rowC q) 34)
  have hs0 : (w.alloc (.cells (rowC q) 34)).heap.size = w.heap.size + 1 := World.size_alloc _ _
  obtain ⟨W0, hW0⟩ : ∃ W0, W0 = w.alloc (.cells (rowC q) 34) := ⟨_, rfl⟩
  rw [← hW0] at hc0 hb0 hs0
  obtain ⟨n0, hn0⟩ : ∃ n0, n0 = w.heap.size := ⟨_, rfl⟩
  have HN0 := Lib.hid hn0
  have HB := Lib.hid hb0
  have HW0 := Lib.hid hW0
  have c0 : W0.cell? ⟨n0, 0, none⟩ = some (.int .u32 (q.1 : Int)) := by rw [hn0]; exact cell_in hc0 rfl
  have c1 : W0.cell? ⟨n0, 1, none⟩ = some (.int .u32 (q.2.1 : Int)) := by rw [hn0]; exact cell_in hc0 rfl
  have c2 : W0.cell? ⟨n0, 2, none⟩ = some (.int .u32 (q.2.2 : Int)) := by rw [hn0]; exact cell_in hc0 rfl
  have HC : Hid (∀ U, Below W0.heap.size W0 U → U.cell? ⟨n0, 0, none⟩ = some (.int .u32 (q.1 : Int)) ∧ U.cell? ⟨n0, 1, none⟩ = some (.int .u32 (q.2.1 : Int)) ∧ U.cell? ⟨n0, 2, none⟩ = some (.int .u32 (q.2.2 : Int)) ∧ Below w.heap.size w U) :=
    Lib.hid (fun U hU => ⟨(hU.cell (p := ⟨n0, 0, none⟩) (by show n0 < _; rw [hs0]; omega)).trans c0, (hU.cell (p := ⟨n0, 1, none⟩) (by show n0 < _; rw [hs0]; omega)).trans c1, (hU.cell (p := ⟨n0, 2, none⟩) (by show n0 < _; rw [hs0]; omega)).trans c2, hb0.trans (hU.mono (by rw [hs0]; omega))⟩)
  have HKn := Lib.hid (tbKnown_any q W0)
  -- a span is handed back
  have HSp : Hid (∀ U, Below w.heap.size w U → ∀ p r : Nat, p ≤ r → r ≤ 1000000000000 → candR R q lo hi = List.range' p (r - p) → Calls Try.prog 42 #[.int .i64 (p : Int), .int .i64 (r : Int)] U fun e w' => ∃ gf lb, e = .returned (.func (.func gf) #[] lb) ∧ MatR B Gz w S tb R (candR R q lo hi) (.returned (.func (.func gf) #[] lb)) w') :=
    Lib.hid (fun U hU p r hpr hr he => (span_iter (B := B) (Gz := Gz) (tb := tb) hU p r hpr hr).mono fun e w' ⟨gf, lb, Q, h1, h2, h3, h4⟩ => ⟨gf, lb, h1, gf, lb, Q, Gz, rfl, h2, h.below h2, fun _ _ _ hg => hg, by rw [he]; exact h4⟩)
  have hcl := candR_lims R q lo hi
  obtain ⟨a, ha⟩ : ∃ a, a = max lo 0 := ⟨_, rfl⟩
  obtain ⟨b, hb⟩ : ∃ b, b = min hi (R.length : Int) := ⟨_, rfl⟩
  rw [← ha, ← hb] at hcl
  have ha0 : 0 ≤ a := by omega
  have hbl : b ≤ (R.length : Int) := by omega
  have HA := Lib.hid ha
  have HBb := Lib.hid hb
  obtain ⟨ns, hns⟩ : ∃ ns, ns = candR R q lo hi := ⟨_, rfl⟩
  rw [← hns] at HSp hcl ⊢
  by_cases hab : b ≤ a
  · have e0 : decide (a ≥ b) = true := by simpa using hab
    have e0' : decide (b ≤ a) = true := by simpa using hab
    have hnil : ns = List.range' 0 (0 - 0) := by
      rw [← hcl]
      unfold candR
      rw [List.filter_eq_nil_iff.2]
      · rfl
      · intro n hn
        rw [Bool.and_eq_true, Bool.and_eq_true, decide_eq_true_eq, decide_eq_true_eq]
        omega
    have HS0 := Lib.hid (HSp.out _ HB.out 0 0 (Nat.le_refl _) (by omega) hnil)
    clear h hc0 hb0 hs0 hW0 hn0 c0 c1 c2 hcl ha hb ha0 hbl hns hab hnil hfew
    go_enter Try.func35, Try.ntmps35
    go_upto_region 1 with fail
    rw [← HW0.out, ← HN0.out]
    go_upto_region 2 with (go_at_call 17; refine (HL.out _ HB.out).mono ?_; rintro e w' ⟨rfl, rfl⟩)
    rw [← HA.out, ← HBb.out]
    go_wp2_with (go_at_call 42; refine HS0.out.mono ?_; rintro e w' ⟨gf, lb, rfl, hm⟩; replace hm := Lib.hid hm)
    go_ret
    exact hm.out
  have e0 : decide (a ≥ b) = false := by simp; omega
  have e0' : decide (b ≤ a) = false := by simp; omega
  obtain ⟨p, hp⟩ : ∃ p : Nat, a = (p : Int) := ⟨a.toNat, by omega⟩
  obtain ⟨r, hr⟩ : ∃ r : Nat, b = (r : Int) := ⟨b.toNat, by omega⟩
  have hpr : p < r := by omega
  have hrl : r ≤ R.length := by omega
  rcases known_cases q with hk | hpt | ⟨hk, hok⟩
  · rw [hk] at HKn
    have hsp : ns = List.range' p (r - p) := by
      rw [← hcl]
      refine candR_span (by omega) hrl fun n hn => ?_
      rw [hp, hr, fit_zero hk]
      simp only [and_true]
      omega
    have HS0 : Hid (∀ U, Below W0.heap.size W0 U → Calls Try.prog 42 #[.int .i64 a, .int .i64 b] U fun e w' => ∃ gf lb, e = .returned (.func (.func gf) #[] lb) ∧ MatR B Gz w S tb R ns (.returned (.func (.func gf) #[] lb)) w') :=
      Lib.hid (fun U hU => by rw [hp, hr]; exact HSp.out U (HC.out U hU).2.2.2 p r (by omega) (by omega) hsp)
    clear h hc0 hb0 hs0 hW0 hn0 hcl ha hb ha0 hbl hns hab hsp hfew hk hp hr hpr hrl HSp
    go_enter Try.func35, Try.ntmps35
    go_upto_region 1 with fail
    rw [← HW0.out, ← HN0.out]
    go_upto_region 2 with (go_at_call 17; refine (HL.out _ HB.out).mono ?_; rintro e w' ⟨rfl, rfl⟩)
    rw [← HA.out, ← HBb.out]
    go_wp2_with (first
      | (go_at_call 30; refine HKn.out.mono ?_; rintro e w' ⟨rfl, hbk⟩; replace hbk := Lib.hid hbk)
      | (go_at_call 42; refine (HS0.out _ hbk.out).mono ?_; rintro e w' ⟨gf, lb, rfl, hm⟩; replace hm := Lib.hid hm))
    go_ret
    exact hm.out
  · obtain ⟨kn, hkn⟩ : ∃ kn, kn = knownN q := ⟨_, rfl⟩
    rw [← hkn] at HKn
    have k0 : ((kn : Int) == 0) = false := by rw [beq_eq_false_iff_ne]; rcases hpt with h | h <;> omega
    have k3 : ((kn : Int) == 3) = false := by rw [beq_eq_false_iff_ne]; rcases hpt with h | h <;> omega
    obtain ⟨x, hx1, hx2, hx3, hx4, hx5, hx6⟩ := h.list q hq hpt
    have hso : SortedN x.xs := by rw [hx1]; exact idxsF_sorted _ _
    have hxl : x.xs.length ≤ R.length := by rw [hx1]; have := idxsF_len q (R.map (·.1)); rw [List.length_map] at this; exact this
    have HLi : Hid (∀ U, Below W0.heap.size W0 U → Calls Try.prog 31 #[tabP tb, rowV q] U fun e w' => e = .returned (.agg #[.slice x.ao x.xs.length x.cap, .int .i64 x.live]) ∧ Below w.heap.size w w') :=
      Lib.hid (fun U hU => hx3 U (HC.out U hU).2.2.2)
    have HSe : Hid (∀ U, Below w.heap.size w U → ∀ t : Int, Calls Try.prog 43 #[.slice x.ao x.xs.length x.cap, .int .i64 t] U fun e w' => ∃ (p : Nat) (y : Bool), e = .returned (.tuple #[.int .i64 (p : Int), .bool y]) ∧ Splits x.xs t p ∧ U = w') :=
      Lib.hid (fun U hU t => search_any _ _ _ _ t U hso rfl (by omega) fun h0 => by
        obtain ⟨g, o, h1, h2⟩ := hx5 h0
        exact ⟨g, o, h1, fun j k hj => (hx4.below hU).cell (h2 j k hj)⟩)
    have HV : Hid (∀ U, Below w.heap.size w U → ∀ (p1 r1 : Nat), Splits x.xs a p1 → Splits x.xs b r1 → ∀ (ao : Option Addr) (cap : Nat), (0 < r1 - p1 → ∃ g o, x.ao = some ⟨g, o, none⟩ ∧ ao = some ⟨g, o + p1, none⟩) →
        Calls Try.prog 44 #[.slice ao (r1 - p1) cap] U fun e w' => ∃ gf lb, e = .returned (.func (.func gf) #[] lb) ∧ MatR B Gz w S tb R ns (.returned (.func (.func gf) #[] lb)) w') := Lib.hid (fun U hU p1 r1 s1 s2 ao cap hao => by
      have hle := splits_le hso (by omega) s1 s2
      have hnsx : ns = (x.xs.take r1).drop p1 := by
        rw [← hcl, hx1]
        rw [hx1] at s1 s2
        exact candR_list (by omega) s1 s2
      have hlen : r1 - p1 = ns.length := by
        rw [hnsx, List.length_drop, List.length_take, Nat.min_eq_left s2.1]
      have hs21 := s2.1
      refine (values_iter (B := B) (Gz := gzL Gz x) (tb := tb) hU ao (r1 - p1) cap ns hlen (by omega) fun h0 => ?_).mono ?_
      · obtain ⟨g, o, h1, h2⟩ := hao h0
        refine ⟨g, o + p1, h2, fun j k hj => ?_⟩
        obtain ⟨g', o', h3, h4⟩ := hx5 (by have := s2.1; omega)
        rw [h1] at h3
        injection h3 with h3
        injection h3 with e1 e2
        subst e1 e2
        rw [hnsx, List.getElem?_drop] at hj
        have hjr : p1 + j < r1 := by
          have := (List.getElem?_eq_some_iff.1 hj).1
          rw [List.length_take] at this
          omega
        rw [List.getElem?_take_of_lt hjr] at hj
        have h5 := h4 (p1 + j) k hj
        rw [← Nat.add_assoc] at h5
        exact ⟨(hx4.below hU).cell h5, h5⟩
      · rintro e w' ⟨gf, lb, Q, h1, h2, h3, h4⟩
        exact ⟨gf, lb, h1, gf, lb, Q, gzL Gz x, rfl, h2, hx4.below h2, fun _ _ _ hg => .inl hg, h4⟩)
    have hfl := field_ls0
    have HX5 : Hid (0 < x.xs.length → ∃ g o, x.ao = some ⟨g, o, none⟩) := Lib.hid (fun h0 => by obtain ⟨g, o, h1, _⟩ := hx5 h0; exact ⟨g, o, h1⟩)
    have HX6 := Lib.hid hx6
    have HSo := Lib.hid hso
    have HAb : Hid (a < b) := Lib.hid (by omega)
    clear h hc0 hb0 hs0 hW0 hn0 hcl ha hb ha0 hbl hns hab hkn hpt hp hr hpr hrl HSp hx1 hx3 hx4 hx5 hx6 hso
    obtain ⟨ao, cap, xs, live⟩ := x
    dsimp only at *
    go_enter Try.func35, Try.ntmps35
    go_upto_region 1 with fail
    rw [← HW0.out, ← HN0.out]
    go_upto_region 2 with (go_at_call 17; refine (HL.out _ HB.out).mono ?_; rintro e w' ⟨rfl, rfl⟩)
    rw [← HA.out, ← HBb.out]
    go_upto_region 14 with (first
      | (go_at_call 30; refine HKn.out.mono ?_; rintro e w' ⟨rfl, hbk⟩; obtain ⟨y0, y1, y2, _⟩ := HC.out _ hbk; replace hbk := Lib.hid hbk)
      | (go_at_call 31; refine (HLi.out _ hbk.out).mono ?_; rintro e w' ⟨rfl, hbl⟩; replace hbl := Lib.hid hbl)
      | (go_at_call 43; refine (HSe.out _ hbl.out a).mono ?_; rintro e w' ⟨p1, y1, rfl, hs1, rfl⟩; replace hs1 := Lib.hid hs1))
    go_upto_region 15 with (go_at_call 43; refine (HSe.out _ hbl.out b).mono ?_; rintro e w' ⟨r1, y3, rfl, hs2, rfl⟩; replace hs2 := Lib.hid hs2)
    have hle := splits_le HSo.out HAb.out hs1.out hs2.out
    have hr1 := hs2.out.1
    go_wp2_with (go_at_call 44; refine (HV.out _ hbl.out p1 r1 hs1.out hs2.out _ _ (by
      intro h0
      have hne : ¬ cap = p1 := by omega
      obtain ⟨g, o, hgo⟩ := HX5.out (by omega)
      exact ⟨g, o, hgo, by rw [hgo]; simp [Addr.add_mid, hne]⟩)).mono ?_; rintro e w' ⟨gf, lb, rfl, hm⟩; replace hm := Lib.hid hm)
    all_goals
      go_ret
      exact hm.out
  · rw [hk] at HKn
    have hF : Hid (∀ U, Below W0.heap.size W0 U → Calls Try.prog 23 #[tabP tb, rowV q] U fun e w' => e = .returned (.tuple (findV (numF R q))) ∧ Below w.heap.size w w') := Lib.hid (fun U hU => by
      have hB := (HC.out U hU).2.2.2
      exact ((h.below hB).find q hq).mono fun e w' ⟨a, b⟩ => ⟨a, hB.trans (b.mono hB.size)⟩)
    have hfit : ∀ n, n < R.length → (fitB q ((R.map (·.1)).getD n (0, 0, 0)) = true ↔ numF R q = some n) := fun n hn => by
      obtain ⟨x, hx⟩ : ∃ x, R[n]? = some x := ⟨_, List.getElem?_eq_getElem hn⟩
      rw [getD_rows hx, fit_whole hok]
      constructor
      · rintro rfl
        exact numF_at h.nod hx
      · intro hn
        obtain ⟨b, hb⟩ := numF_some hn
        rw [hx] at hb
        injection hb with hb
        rw [hb]
    cases hnum : numF R q with
    | none =>
      rw [hnum] at hF hfit
      have hsp : ns = List.range' 0 (0 - 0) := by
        rw [← hcl]
        refine candR_span (Nat.le_refl _) (Nat.zero_le _) fun n hn => ?_
        rw [hfit n hn]
        simp
      have HS0 : Hid (∀ U, Below w.heap.size w U → Calls Try.prog 42 #[.int .i64 0, .int .i64 0] U fun e w' => ∃ gf lb, e = .returned (.func (.func gf) #[] lb) ∧ MatR B Gz w S tb R ns (.returned (.func (.func gf) #[] lb)) w') :=
        Lib.hid (fun U hU => HSp.out U hU 0 0 (Nat.le_refl _) (by omega) hsp)
      have HF : Hid (∀ U, Below W0.heap.size W0 U → Calls Try.prog 23 #[tabP tb, rowV q] U fun e w' => e = .returned (.tuple #[.int .i64 (-1), .bool false]) ∧ Below w.heap.size w w') := hF
      clear h hc0 hb0 hs0 hW0 hn0 hcl ha hb ha0 hbl hns hab hsp hfew hk hp hr hpr hrl HSp hok hfit hnum hF
      go_enter Try.func35, Try.ntmps35
      go_upto_region 1 with fail
      rw [← HW0.out, ← HN0.out]
      go_upto_region 2 with (go_at_call 17; refine (HL.out _ HB.out).mono ?_; rintro e w' ⟨rfl, rfl⟩)
      rw [← HA.out, ← HBb.out]
      go_wp2_with (first
        | (go_at_call 30; refine HKn.out.mono ?_; rintro e w' ⟨rfl, hbk⟩; obtain ⟨y0, y1, y2, _⟩ := HC.out _ hbk; replace hbk := Lib.hid hbk)
        | (go_at_call 23; refine (HF.out _ hbk.out).mono ?_; rintro e w' ⟨rfl, hbf⟩; replace hbf := Lib.hid hbf)
        | (go_at_call 42; refine (HS0.out _ hbf.out).mono ?_; rintro e w' ⟨gf, lb, rfl, hm⟩; replace hm := Lib.hid hm))
      go_ret
      exact hm.out
    | some n =>
      rw [hnum] at hF hfit
      obtain ⟨b0, hbn⟩ := numF_some hnum
      have hnl := (List.getElem?_eq_some_iff.1 hbn).1
      have HF : Hid (∀ U, Below W0.heap.size W0 U → Calls Try.prog 23 #[tabP tb, rowV q] U fun e w' => e = .returned (.tuple #[.int .i64 (n : Int), .bool true]) ∧ Below w.heap.size w w') := hF
      by_cases hin : p ≤ n ∧ n < r
      · have hsp : ns = List.range' n (n + 1 - n) := by
          rw [← hcl]
          refine candR_span (by omega) (by omega) fun m hm => ?_
          rw [hfit m hm, hp, hr, Option.some.injEq]
          omega
        have HS0 : Hid (∀ U, Below w.heap.size w U → Calls Try.prog 42 #[.int .i64 (n : Int), .int .i64 ((n : Int) + 1)] U fun e w' => ∃ gf lb, e = .returned (.func (.func gf) #[] lb) ∧ MatR B Gz w S tb R ns (.returned (.func (.func gf) #[] lb)) w') :=
          Lib.hid (fun U hU => HSp.out U hU n (n + 1) (by omega) (by omega) hsp)
        have t1 : decide ((n : Int) < a) = false := by simp; omega
        have t2 : decide ((n : Int) ≥ b) = false := by simp; omega
        have t2' : decide (b ≤ (n : Int)) = false := by simp; omega
        have t3 : (n : Int) + 1 < 100000000000 := by omega
        clear h hc0 hb0 hs0 hW0 hn0 hcl ha hb ha0 hbl hns hab hsp hfew hk hp hr hpr hrl HSp hok hfit hnum hF hin hnl hbn
        go_enter Try.func35, Try.ntmps35
        go_upto_region 1 with fail
        rw [← HW0.out, ← HN0.out]
        go_upto_region 2 with (go_at_call 17; refine (HL.out _ HB.out).mono ?_; rintro e w' ⟨rfl, rfl⟩)
        rw [← HA.out, ← HBb.out]
        go_wp2_with (first
          | (go_at_call 30; refine HKn.out.mono ?_; rintro e w' ⟨rfl, hbk⟩; obtain ⟨y0, y1, y2, _⟩ := HC.out _ hbk; replace hbk := Lib.hid hbk)
          | (go_at_call 23; refine (HF.out _ hbk.out).mono ?_; rintro e w' ⟨rfl, hbf⟩; replace hbf := Lib.hid hbf)
          | (go_at_call 42; refine (HS0.out _ hbf.out).mono ?_; rintro e w' ⟨gf, lb, rfl, hm⟩; replace hm := Lib.hid hm))
        go_ret
        exact hm.out
      · have hsp : ns = List.range' 0 (0 - 0) := by
          rw [← hcl]
          refine candR_span (Nat.le_refl _) (Nat.zero_le _) fun m hm => ?_
          rw [hfit m hm, hp, hr, Option.some.injEq]
          omega
        have HS0 : Hid (∀ U, Below w.heap.size w U → Calls Try.prog 42 #[.int .i64 0, .int .i64 0] U fun e w' => ∃ gf lb, e = .returned (.func (.func gf) #[] lb) ∧ MatR B Gz w S tb R ns (.returned (.func (.func gf) #[] lb)) w') :=
          Lib.hid (fun U hU => HSp.out U hU 0 0 (Nat.le_refl _) (by omega) hsp)
        by_cases hpn : (n : Int) < a
        · have t1 : decide ((n : Int) < a) = true := by simpa using hpn
          clear h hc0 hb0 hs0 hW0 hn0 hcl ha hb ha0 hbl hns hab hsp hfew hk hp hr hpr hrl HSp hok hfit hnum hF hin hnl hbn hpn
          go_enter Try.func35, Try.ntmps35
          go_upto_region 1 with fail
          rw [← HW0.out, ← HN0.out]
          go_upto_region 2 with (go_at_call 17; refine (HL.out _ HB.out).mono ?_; rintro e w' ⟨rfl, rfl⟩)
          rw [← HA.out, ← HBb.out]
          go_wp2_with (first
            | (go_at_call 30; refine HKn.out.mono ?_; rintro e w' ⟨rfl, hbk⟩; obtain ⟨y0, y1, y2, _⟩ := HC.out _ hbk; replace hbk := Lib.hid hbk)
            | (go_at_call 23; refine (HF.out _ hbk.out).mono ?_; rintro e w' ⟨rfl, hbf⟩; replace hbf := Lib.hid hbf)
            | (go_at_call 42; refine (HS0.out _ hbf.out).mono ?_; rintro e w' ⟨gf, lb, rfl, hm⟩; replace hm := Lib.hid hm))
          go_ret
          exact hm.out
        · have t1 : decide ((n : Int) < a) = false := by simpa using hpn
          have t2 : decide ((n : Int) ≥ b) = true := by simp; omega
          have t2' : decide (b ≤ (n : Int)) = true := by simp; omega
          clear h hc0 hb0 hs0 hW0 hn0 hcl ha hb ha0 hbl hns hab hsp hfew hk hp hr hpr hrl HSp hok hfit hnum hF hin hnl hbn hpn
          go_enter Try.func35, Try.ntmps35
          go_upto_region 1 with fail
          rw [← HW0.out, ← HN0.out]
          go_upto_region 2 with (go_at_call 17; refine (HL.out _ HB.out).mono ?_; rintro e w' ⟨rfl, rfl⟩)
          rw [← HA.out, ← HBb.out]
          go_wp2_with (first
            | (go_at_call 30; refine HKn.out.mono ?_; rintro e w' ⟨rfl, hbk⟩; obtain ⟨y0, y1, y2, _⟩ := HC.out _ hbk; replace hbk := Lib.hid hbk)
            | (go_at_call 23; refine (HF.out _ hbk.out).mono ?_; rintro e w' ⟨rfl, hbf⟩; replace hbf := Lib.hid hbf)
            | (go_at_call 42; refine (HS0.out _ hbf.out).mono ?_; rintro e w' ⟨gf, lb, rfl, hm⟩; replace hm := Lib.hid hm))
          go_ret
          exact hm.out
end
end Go.Proofs.Ytnmimagcmmdolaa
