/-
  CONTRACTS OF A DICTIONARY's CALLS, in terms of the packed terms that it has: New, Intern, Find, Term, Cut.
-/
import Derived.Test.YtlamdhklfibjmaaDoorDictIntern
import Derived.IntWalk
namespace Go.Proofs.YtlamdhklfibjmaaDoor
open Go.RowKit
open Utf Term
set_option linter.unusedVariables false
set_option linter.unusedSimpArgs false

/-- The terms of steps in a row. -/
def RowS (W : World) (b off : Nat) (ts : List TermD) : Prop := ∀ p q, ts[p]? = some q → W.cell? ⟨b, off + p * 5 + 2, none⟩ = some (.int .i64 q.1) ∧ W.cell? ⟨b, off + p * 5 + 2 + 1, none⟩ = some (.string q.2.1) ∧ W.cell? ⟨b, off + p * 5 + 2 + 2, none⟩ = some (.string q.2.2)
theorem RowS.below {W W' : World} {b off : Nat} {ts : List TermD} (h : RowS W b off ts) (k : Below W.heap.size W W') : RowS W' b off ts := fun p q e =>
  ⟨cell_below k (h p q e).1, cell_below k (h p q e).2.1, cell_below k (h p q e).2.2⟩
/-- A slice of steps. -/
def SliceS (W : World) (bo : Option Addr) (n cap : Nat) (ts : List TermD) : Prop := ts.length = n ∧ n ≤ cap ∧ n ≤ 9223372036854775807 ∧ (0 < n → ∃ b off, bo = some ⟨b, off, none⟩ ∧ RowS W b off ts)
theorem SliceS.below {W W' : World} {bo : Option Addr} {n cap : Nat} {ts : List TermD} (h : SliceS W bo n cap ts) (k : Below W.heap.size W W') : SliceS W' bo n cap ts :=
  ⟨h.1, h.2.1, h.2.2.1, fun h0 => by obtain ⟨b, off, e, r⟩ := h.2.2.2 h0; exact ⟨b, off, e, r.below k⟩⟩
/-- Texts that may be gone through. -/
def SmallS (q : TermD) : Prop := q.2.1.size ≤ 30000 ∧ q.2.2.size ≤ 30000

/-- The answer of Much. -/
def MuchSEnd (ts : List TermD) (most : Nat) (w : World) (e : Ending) (w' : World) : Prop :=
  ∃ v, e = .returned (.bool v) ∧ Below w.heap.size w w' ∧ (v = false → ts.length ≤ most ∧ ∀ q ∈ ts, SmallS q)

set_option maxRecDepth 100000 in
set_option maxHeartbeats 4000000 in
theorem muchS_any (bo : Option Addr) (n cap most : Nat) (ts : List TermD) (hm : most ≤ 1000000) (w : World) (h : SliceS w bo n cap ts) :
    Calls Tryd.prog 6 #[.slice bo n cap, .int .i64 most] w (MuchSEnd ts most w) := by
  have HS := Lib.hid h
  have hn := h.2.2.1
  clear h
  go_enter Tryd.func6, Tryd.ntmps6
  go_wp2
  go_loopg [5, 6] n (fun g s i wr => ∃ (k N : Nat), k ≤ n ∧ k ≤ most + 1 ∧ n - k ≤ g ∧ i = .int .i64 k ∧ s = .int .i64 N ∧ N ≤ 30000 ∧ Hid (∀ p q, p < k → ts[p]? = some q → SmallS q) ∧ Hid (Below w.heap.size w wr))
  case atStart => exact ⟨0, 0, Nat.zero_le _, Nat.zero_le _, by omega, rfl, rfl, Nat.zero_le _, Lib.hid fun p q h => absurd h (by omega), Lib.hid (Below.refl _ _)⟩
  case round =>
    obtain ⟨k, N, hk, hk2, hg, rfl, rfl, hN, HSM, HB⟩ := hrel
    by_cases hlt : k < n
    · have d1 : decide ((k : Int) < (n : Int)) = true := by simpa using hlt
      by_cases hlm : k ≤ most
      · have d2 : decide ((k : Int) ≤ (most : Int)) = true := by simpa using hlm
        obtain ⟨b, off, rfl, hr⟩ := HS.out.2.2.2 (by omega)
        obtain ⟨q0, hq0⟩ : ∃ q, ts[k]? = some q := ⟨_, List.getElem?_eq_getElem (by have := HS.out.1; omega)⟩
        have hr' := hr.below HB.out
        have hrd := hr.below HB.out.drew
        have D0 := Lib.hid (show wr.cell? ⟨b, off + k * 5 + 2 + 1, none⟩ = some (.string q0.2.1) ∧ wr.cell? ⟨b, off + k * 5 + 2 + 2, none⟩ = some (.string q0.2.2) ∧ Below w.heap.size w wr from ⟨(hr' k q0 hq0).2.1, (hr' k q0 hq0).2.2, HB.out⟩)
        have D0d := Lib.hid (show wr.drew.cell? ⟨b, off + k * 5 + 2 + 1, none⟩ = some (.string q0.2.1) ∧ wr.drew.cell? ⟨b, off + k * 5 + 2 + 2, none⟩ = some (.string q0.2.2) ∧ Below w.heap.size w wr.drew from ⟨(hrd k q0 hq0).2.1, (hrd k q0 hq0).2.2, HB.out.drew⟩)
        have HQ0 := Lib.hid hq0
        clear hr hr' hrd hq0
        have i0 : (0 : Int) ≤ (k : Int) := by omega
        have i1 : (k : Int) < (n : Int) := by omega
        go_wp2_with fail
        obtain ⟨M0, hM0⟩ : ∃ M : Nat, M = N + min q0.2.1.size 30001 + min q0.2.2.size 30001 := ⟨_, rfl⟩
        have a0 : IntKind.i64.wrap ((N : Int) + min (q0.2.1.size : Int) 30001) = (N : Int) + min (q0.2.1.size : Int) 30001 := IntWalk.i64_in _ (by omega)
        have b0 : IntKind.i64.wrap ((N : Int) + min (q0.2.1.size : Int) 30001 + min (q0.2.2.size : Int) 30001) = (M0 : Int) := (IntWalk.i64_in _ (by omega)).trans (by omega)
        have S0 := Lib.hid (show M0 ≤ 30000 → SmallS q0 from fun h => ⟨by omega, by omega⟩)
        clear hM0
        go_region_held3 (fun W' => W'.cell? ⟨b, off + k * 5 + 2 + 1, none⟩ = some (.string q0.2.1) ∧ W'.cell? ⟨b, off + k * 5 + 2 + 2, none⟩ = some (.string q0.2.2) ∧ Below w.heap.size w W') ((first | assumption | exact D0.out | exact D0d.out)) (fail)
        all_goals
          rename_i hHeld
          have Y0 := Lib.hid hHeld.2.2
          clear hHeld D0 D0d a0 b0
          by_cases g0 : 30000 < M0
          · have g1 : decide (30000 < M0) = true := by simpa using g0
            have g' : decide (30000 < (M0 : Int)) = true := by simp; omega
            go_wp2_with fail
            go_ret
            exact ⟨true, rfl, Y0.out, fun h => by cases h⟩
          have g1 : decide (30000 < M0) = false := by simpa using g0
          have g' : decide (30000 < (M0 : Int)) = false := by simp; omega
          have g0 : M0 ≤ 30000 := Nat.le_of_not_lt g0
          have HNX : Hid (∀ p q, p < k + 1 → ts[p]? = some q → SmallS q) := Lib.hid fun p q hp hq => by
            by_cases e : p = k
            · subst e
              obtain rfl : q0 = q := Option.some.inj (HQ0.out.symm.trans hq)
              exact S0.out g0
            · exact HSM.out p q (by omega) hq
          go_wp2_with fail
          go_roundg (n - (k + 1))
          case measure => omega
          case rel => exact ⟨k + 1, M0, by omega, by omega, Nat.le_refl _, by go_num, rfl, g0, HNX, Y0⟩
      · have d2 : decide ((k : Int) ≤ (most : Int)) = false := by simpa using hlm
        have d3 : decide (most < n) = true := by simp; omega
        go_wp2_with fail
        go_ret
        exact ⟨true, rfl, HB.out, fun h => by cases h⟩
    · have d1 : decide ((k : Int) < (n : Int)) = false := by simpa using hlt
      have HF : Hid (n ≤ most → ∀ q ∈ ts, SmallS q) := Lib.hid (fun _ q hq => by
        obtain ⟨p, hp⟩ := List.getElem?_of_mem hq
        refine HSM.out p q ?_ hp
        have := (List.getElem?_eq_some_iff.1 hp).1
        have := HS.out.1
        omega)
      by_cases hnm : n ≤ most
      · have d3 : decide (most < n) = false := by simp; omega
        go_wp2_with fail
        go_ret
        exact ⟨false, rfl, HB.out, fun _ => ⟨by rw [HS.out.1]; omega, HF.out hnm⟩⟩
      · have d3 : decide (most < n) = true := by simp; omega
        go_wp2_with fail
        go_ret
        exact ⟨true, rfl, HB.out, fun h => by cases h⟩

set_option maxRecDepth 100000 in
theorem numS_any (x : Int) (w : World) : Calls Tryd.prog 12 #[.int .i64 x] w fun e w' => e = .returned (.int .i64 x) ∧ w = w' := by
  go_enter Tryd.func12, Tryd.ntmps12
  go_wp2
  go_ret
  exact ⟨rfl, rfl⟩

/-- All blocks that have come. -/
def newS (w w' : World) : Nat → Prop := fun j => w.heap.size ≤ j ∧ j < w'.heap.size

set_option maxRecDepth 100000 in
set_option maxHeartbeats 2000000 in
theorem newI (lim : Nat) (h : lim ≤ 2147483647) (w : World) : Calls Tryd.prog 7 #[.int .i64 lim] w fun e w' => ∃ dp, e = .returned (.pointer (some ⟨dp, 0, none⟩)) ∧ DictI w' (newS w w') dp lim [] ∧ Below w.heap.size w w' := by
  have M := Lib.hid (isLimit_any (lim : Int) w)
  rw [decide_eq_true (by omega)] at M
  obtain ⟨i0, hi, hz0, hz1, hz2⟩ := info_parts3u info_u32
  have hmk : (Instr.makeSlice 48 (.int .i64 8) (.int .i64 8)).run Tryd.prog w = .ok (.slice (some ⟨w.heap.size, 0, none⟩) 8 8) (w.alloc (.cells #[.int .u32 0, .int .u32 0, .int .u32 0, .int .u32 0, .int .u32 0, .int .u32 0, .int .u32 0, .int .u32 0] 28)) := by
    have h := run_makeSlice (P := Tryd.prog) w 48 28 i0 _ Tryd.underlying48 hi hz0 .i64 .i64 8 8 (by omega) (by omega) (by rw [hz1]; decide) (by rw [hz2]; decide) (by omega)
    rw [hz1] at h
    have e : madeCells (Value.int .u32 0).cells (Int.toNat 8 * 1) = #[.int .u32 0, .int .u32 0, .int .u32 0, .int .u32 0, .int .u32 0, .int .u32 0, .int .u32 0, .int .u32 0] := by kernel_rfl
    rw [e] at h
    exact h
  go_enter Tryd.func7, Tryd.ntmps7
  go_wp2_with (go_at_call 19; refine M.out.mono ?_; rintro e w' ⟨rfl, rfl⟩)
  go_ret
  have hB1 := below_new w (.cells #[.int .u32 0, .int .u32 0, .int .u32 0, .int .u32 0, .int .u32 0, .int .u32 0, .int .u32 0, .int .u32 0] 28)
  have hB2 := below_step hB1 (below_new _ (.cells #[.int .i64 lim, .slice none 0 0, .slice none 0 0, .slice (some ⟨w.heap.size, 0, none⟩) 8 8] 50))
  have hs1 : (w.alloc (.cells #[.int .u32 0, .int .u32 0, .int .u32 0, .int .u32 0, .int .u32 0, .int .u32 0, .int .u32 0, .int .u32 0] 28)).heap.size = w.heap.size + 1 := by simp
  refine ⟨w.heap.size + 1, rfl, ⟨List.replicate 8 0, none, none, 0, 0, w.heap.size, 3, ⟨?_, ⟨rfl, .inl ⟨rfl, rfl, rfl⟩⟩, ⟨rfl, .inl ⟨rfl, rfl, rfl⟩⟩, ?_, by omega, (fun a ha => by cases ha), (fun a ha => by cases ha), (fun a b ha => by cases ha), (fun p hp => by cases hp), (fun p hp => by cases hp), by simp, by simp, ?_, ?_, (fun a ha => by cases ha), (fun a ha => by cases ha), fun j hj => hj.2⟩, Nat.le_refl _, by omega, rfl, Dict.Inv.empty (by omega), by simp, h, by simp⟩, hB2⟩
  · have := heap_alloc_new (w.alloc (.cells #[.int .u32 0, .int .u32 0, .int .u32 0, .int .u32 0, .int .u32 0, .int .u32 0, .int .u32 0, .int .u32 0] 28)) (.cells #[.int .i64 lim, .slice none 0 0, .slice none 0 0, .slice (some ⟨w.heap.size, 0, none⟩) 8 8] 50)
    rwa [hs1] at this
  · rw [Below.heap_alloc _ _ _ (by rw [hs1]; omega), heap_alloc_new]
    rfl
  · exact ⟨by omega, by simp⟩
  · exact ⟨Nat.le_refl _, by simp; omega⟩

theorem internI (S : Nat → Prop) (dp lim : Nat) (ps : List (List Int)) (a : TermD) (hf : Fair a) (hflat : ps.flatten.length + (packL a).length ≤ 1000000000000) (m : Int) (w : World) (hm : w.cell? ⟨0, 0, none⟩ = some (.int .i64 m)) (D : DictI w S dp lim ps) :
    Calls Tryd.prog 9 #[.pointer (some ⟨dp, 0, none⟩), termD a] w fun e w' => e = .returned (.tuple #[.int .u32 ((internP lim ps a).1 : Nat), .int .i64 ((internP lim ps a).2.1 : Nat)]) ∧ DictI w' (growS S w w') dp lim (internP lim ps a).2.2 ∧ Turned S w w' := by
  cases hmay : mayD a with
  | true => exact intern_good S dp lim ps a hf hmay hflat m w hm D
  | false =>
    have e : internP lim ps a = (0, 2, ps) := by unfold internP; rw [if_neg (by rw [hmay]; decide)]
    rw [e]
    refine (intern_bad S dp lim ps a hf hmay m w hm D).mono ?_
    rintro e w' ⟨he, hB⟩
    exact ⟨he, D.grow hB, Turned.of_below hB⟩

theorem findI (S : Nat → Prop) (dp lim : Nat) (ps : List (List Int)) (a : TermD) (hf : Fair a) (hmay : mayD a = true) (m : Int) (w : World) (hm : w.cell? ⟨0, 0, none⟩ = some (.int .i64 m)) (D : DictI w S dp lim ps) :
    Calls Tryd.prog 11 #[.pointer (some ⟨dp, 0, none⟩), termD a] w fun e w' => e = .returned (.tuple #[.int .u32 (Dict.number ps (packL a) : Nat), .bool (decide (Dict.number ps (packL a) ≠ 0))]) ∧ Below w.heap.size w w' := by
  obtain ⟨tb, ta, ba, tc, bc, tg, sm, D⟩ := D
  exact find_may dp lim ps tb ta ba tc bc tg sm (by have := D.smMax; omega) D.size D.inv a hf.1 hf.2 (mayD_facts hmay (by have := hf.1; omega)).1 hmay m w hm D.on.at_

theorem termI (S : Nat → Prop) (dp lim : Nat) (ps : List (List Int)) (i : Nat) (a : TermD) (hf : Fair a) (hmay : mayD a = true) (hp : ps[i]? = some (packL a)) (m : Int) (w : World) (hm : w.cell? ⟨0, 0, none⟩ = some (.int .i64 m)) (D : DictI w S dp lim ps) :
    Calls Tryd.prog 10 #[.pointer (some ⟨dp, 0, none⟩), .int .u32 ((i : Int) + 1)] w fun e w' => e = .returned (.tuple #[termD a, .bool true]) ∧ Below w.heap.size w w' := by
  obtain ⟨tb, ta, ba, tc, bc, tg, sm, D⟩ := D
  have h := mayD_facts hmay (by have := hf.1; omega)
  exact dictTerm_some dp lim ps tb ta ba tc bc tg i a hp D.on.many h.1 h.2 hf.1 hf.2 m w hm D.on.at_

theorem DictI.nodup {w : World} {S : Nat → Prop} {dp lim : Nat} {ps : List (List Int)} (h : DictI w S dp lim ps) : ps.Nodup := by
  obtain ⟨tb, ta, ba, tc, bc, tg, sm, h⟩ := h
  exact h.inv.nodup
theorem DictI.many {w : World} {S : Nat → Prop} {dp lim : Nat} {ps : List (List Int)} (h : DictI w S dp lim ps) : ps.length ≤ lim := by
  obtain ⟨tb, ta, ba, tc, bc, tg, sm, h⟩ := h
  exact h.le

set_option maxRecDepth 100000 in
set_option maxHeartbeats 2000000 in
theorem cut_all (S : Nat → Prop) (dp lim : Nat) (ps : List (List Int)) (w : World) (D : DictI w S dp lim ps) (q : Int) (hq : q < 0 ∨ (ps.length : Int) ≤ q) :
    Calls Tryd.prog 13 #[.pointer (some ⟨dp, 0, none⟩), .int .i64 q] w fun e w' => e = .returned (.int .i64 (if q = (ps.length : Int) then 0 else 2)) ∧ Below w.heap.size w w' := by
  obtain ⟨tb, ta, ba, tc, bc, tg, sm, D⟩ := D
  have hmn := D.on.many
  have M0 := Lib.hid (isNone_some dp tg tb.length tb.length w D.on.at_.c3)
  have M1 := Lib.hid (fun W (h : Below w.heap.size w W) => dictLen_any dp lim ps tb ta ba tc bc tg W (D.on.at_.below h))
  clear D
  obtain ⟨k, hk⟩ : ∃ k, k = ps.length := ⟨_, rfl⟩
  rw [← hk] at hmn hq M1 ⊢
  clear hk
  have B0 := Lib.hid (Below.refl w.heap.size w)
  by_cases h1 : q < 0
  · have t1 : decide (q < 0) = true := decide_eq_true h1
    have HF : Hid ((if q = (k : Int) then (0 : Int) else 2) = 2) := Lib.hid (if_neg (by omega))
    rw [HF.out]
    clear hq
    go_enter Tryd.func13, Tryd.ntmps13
    go_wp2_with (first | (go_at_call 20; refine M0.out.mono ?_; rintro e w' ⟨rfl, rfl⟩))
    go_ret
    exact ⟨rfl, B0.out⟩
  · have h2 : (k : Int) ≤ q := by omega
    obtain ⟨n, rfl⟩ : ∃ n : Nat, q = (n : Int) := ⟨q.toNat, by omega⟩
    have t1 : decide ((n : Int) < 0) = false := decide_eq_false h1
    clear hq
    by_cases h3 : k < n
    · have t2 : (k : Int) < (n : Int) := by omega
      have t2' : decide ((k : Int) < (n : Int)) = true := decide_eq_true t2
      have HF : Hid ((if (n : Int) = (k : Int) then (0 : Int) else 2) = 2) := Lib.hid (if_neg (by omega))
      rw [HF.out]
      go_enter Tryd.func13, Tryd.ntmps13
      go_wp2_with (first | (go_at_call 20; refine M0.out.mono ?_; rintro e w' ⟨rfl, rfl⟩))
      refine (M1.out _ B0.out).mono ?_
      rintro e w1 ⟨rfl, hB1⟩
      have B1 := Lib.hid hB1
      clear hB1
      go_wp2_with fail
      go_ret
      exact ⟨rfl, B1.out⟩
    · obtain rfl : n = k := by omega
      have t2 : ¬ (n : Int) < (n : Int) := by omega
      have t2' : decide ((n : Int) < (n : Int)) = false := decide_eq_false t2
      rw [if_pos rfl]
      go_enter Tryd.func13, Tryd.ntmps13
      go_wp2_with (first | (go_at_call 20; refine M0.out.mono ?_; rintro e w' ⟨rfl, rfl⟩))
      refine (M1.out _ B0.out).mono ?_
      rintro e w1 ⟨rfl, hB1⟩
      have B1 := Lib.hid hB1
      clear hB1
      go_wp2_with fail
      refine (M1.out _ B1.out).mono ?_
      rintro e w2 ⟨rfl, hB2⟩
      have B2 := Lib.hid (below_step B1.out hB2)
      clear hB2
      go_wp2_with fail
      go_ret
      exact ⟨rfl, B2.out⟩

theorem cutI (S : Nat → Prop) (dp lim : Nat) (ps : List (List Int)) (n : Nat) (hn : n ≤ ps.length) (w : World) (D : DictI w S dp lim ps) :
    Calls Tryd.prog 13 #[.pointer (some ⟨dp, 0, none⟩), .int .i64 n] w fun e w' => e = .returned (.int .i64 0) ∧ DictI w' (growS S w w') dp lim (ps.take n) ∧ Turned S w w' := by
  by_cases h : n < ps.length
  · exact cut_less S dp lim ps n h w D
  · obtain rfl : n = ps.length := by omega
    rw [List.take_length]
    refine (cut_all S dp lim ps w D ps.length (.inr (Int.le_refl _))).mono ?_
    rintro e w' ⟨he, hB⟩
    rw [if_pos rfl] at he
    exact ⟨he, D.grow hB, Turned.of_below hB⟩

/-- Terms that the law may bring. -/
def Good (ps : List (List Int)) : Prop := ∀ p ∈ ps, ∃ a, p = packL a ∧ mayD a = true ∧ SmallS a
theorem SmallS.fair {a : TermD} (h : SmallS a) : Fair a := ⟨by have := h.1; omega, by have := h.2; omega⟩
theorem SmallS.pack {a : TermD} (h : SmallS a) : (packL a).length ≤ 60002 := by
  rw [packL_length]; have := h.1; have := h.2; omega
theorem Good.flat : ∀ {ps : List (List Int)}, Good ps → ps.flatten.length ≤ ps.length * 60002
  | [], _ => by simp
  | p :: ps, h => by
    have ih := Good.flat (ps := ps) fun q hq => h q (List.mem_cons_of_mem _ hq)
    obtain ⟨a, rfl, _, hs⟩ := h p List.mem_cons_self
    have := hs.pack
    rw [List.flatten_cons, List.length_append, List.length_cons]
    omega
theorem Good.intern {lim : Nat} {ps : List (List Int)} {a : TermD} (h : Good ps) (ha : SmallS a) : Good (internP lim ps a).2.2 := by
  unfold internP
  split
  · rename_i hm
    split
    · exact h
    · split
      · exact h
      · intro p hp
        rcases List.mem_append.1 hp with hp | hp
        · exact h p hp
        · obtain rfl : p = packL a := by simpa using hp
          exact ⟨a, rfl, hm, ha⟩
  · exact h
theorem internP_len (lim : Nat) (ps : List (List Int)) (a : TermD) : (internP lim ps a).2.2.length ≤ ps.length + 1 := by
  unfold internP
  split
  · split
    · simp
    · split <;> simp
  · simp
/-- What comes stands behind. -/
theorem internP_ext (lim : Nat) (ps : List (List Int)) (a : TermD) : ∃ r, (internP lim ps a).2.2 = ps ++ r := by
  unfold internP
  split
  · split
    · exact ⟨[], by simp⟩
    · split
      · exact ⟨[], by simp⟩
      · exact ⟨_, rfl⟩
  · exact ⟨[], by simp⟩
theorem number_at {κ : Type} [DecidableEq κ] {ps : List κ} (h : ps.Nodup) {i : Nat} {p : κ} (hp : ps[i]? = some p) : Dict.number ps p = i + 1 := by
  unfold Dict.number
  have hm := List.mem_of_getElem? hp
  rw [if_pos hm]
  have hl := List.idxOf_lt_length_iff.2 hm
  have h1 : ps[ps.idxOf p]? = some p := by rw [List.getElem?_eq_getElem hl]; simp
  rw [Dict.nodup_get h h1 hp]
end Go.Proofs.YtlamdhklfibjmaaDoor
