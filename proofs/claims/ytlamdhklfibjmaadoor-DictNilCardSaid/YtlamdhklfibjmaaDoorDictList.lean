/-
  A LIST OF PACKED TERMS IN MEMORY. CONTRACTS OF (list).len, (list).end, (list).at.
-/
import Derived.Test.YtlamdhklfibjmaaDoorDictLeaf
import Derived.Deep.RegionHeld3
import Derived.IntWalk
namespace Go.Proofs.YtlamdhklfibjmaaDoor
open Go.RowKit
open Utf Term
set_option linter.unusedVariables false
set_option linter.unusedSimpArgs false

/-- Where the term i begins, all of them one behind the other. -/
def offP (ps : List (List Int)) (i : Nat) : Nat := (ps.take i).flatten.length
theorem offP_zero (ps : List (List Int)) : offP ps 0 = 0 := rfl
theorem offP_all (ps : List (List Int)) : offP ps ps.length = ps.flatten.length := by unfold offP; rw [List.take_length]
theorem offP_next {ps : List (List Int)} {i : Nat} {p : List Int} (h : ps[i]? = some p) : offP ps (i + 1) = offP ps i + p.length := by
  unfold offP
  rw [List.take_add_one, h, List.flatten_append, List.length_append]
  simp
theorem offP_le {ps : List (List Int)} : ∀ {i : Nat}, i ≤ ps.length → offP ps i ≤ ps.flatten.length := fun {i} h => by
  unfold offP
  have : ps.flatten = (ps.take i).flatten ++ (ps.drop i).flatten := by rw [← List.flatten_append, List.take_append_drop]
  rw [this, List.length_append]
  omega
/-- What lies at a term's place. -/
theorem flat_at {ps : List (List Int)} {i : Nat} {p : List Int} (h : ps[i]? = some p) (j : Nat) (hj : j < p.length) : ps.flatten[offP ps i + j]? = p[j]? := by
  have hi : i < ps.length := (List.getElem?_eq_some_iff.1 h).1
  have e : ps.flatten = (ps.take i).flatten ++ (p ++ (ps.drop (i + 1)).flatten) := by
    have h1 : ps.drop i = p :: ps.drop (i + 1) := by
      rw [List.drop_eq_getElem_cons hi]
      congr 1
      exact Option.some.inj ((List.getElem?_eq_getElem hi).symm.trans h)
    have h2 : ps.flatten = (ps.take i).flatten ++ (ps.drop i).flatten := by rw [← List.flatten_append, List.take_append_drop]
    rw [h2, h1, List.flatten_cons]
  rw [e]
  unfold offP
  rw [List.getElem?_append_right (by omega), Nat.add_sub_cancel_left, List.getElem?_append_left hj]

/-- The cells of all terms' bytes, and of where they begin. -/
def cellsP (ps : List (List Int)) : List Value := ps.flatten.map (Value.int .u8)
def beginsP (ps : List (List Int)) : List Value := (List.range ps.length).map fun i => .int .i64 (offP ps i)

/-- A list of packed terms: its two slices. -/
structure ListP (W : World) (ta : Option Addr) (tc : Nat) (ba : Option Addr) (bc : Nat) (ps : List (List Int)) : Prop where
  terms : 0 < ps.flatten.length → ∃ b o, ta = some ⟨b, o, none⟩ ∧ RowC W b o (cellsP ps)
  begins : 0 < ps.length → ∃ b o, ba = some ⟨b, o, none⟩ ∧ RowC W b o (beginsP ps)
  tcap : ps.flatten.length ≤ tc
  bcap : ps.length ≤ bc
  tmax : ps.flatten.length ≤ 1000000000000
  bmax : ps.length ≤ 1000000000000
  full : ∀ p ∈ ps, 0 < p.length
theorem ListP.below {W W' : World} {ta ba : Option Addr} {tc bc : Nat} {ps : List (List Int)} (h : ListP W ta tc ba bc ps) (k : Below W.heap.size W W') : ListP W' ta tc ba bc ps :=
  ⟨fun h0 => let ⟨b, o, h1, h2⟩ := h.terms h0; ⟨b, o, h1, h2.below k⟩, fun h0 => let ⟨b, o, h1, h2⟩ := h.begins h0; ⟨b, o, h1, h2.below k⟩, h.tcap, h.bcap, h.tmax, h.bmax, h.full⟩
theorem begin_at {W : World} {b o : Nat} {ps : List (List Int)} (h : RowC W b o (beginsP ps)) {i : Nat} (hi : i < ps.length) : W.cell? ⟨b, o + i, none⟩ = some (.int .i64 (offP ps i)) :=
  h i _ (by unfold beginsP; rw [List.getElem?_map, List.getElem?_range hi]; rfl)
theorem row_at {W : World} {b o : Nat} {ps : List (List Int)} (h : RowC W b o (cellsP ps)) {i : Nat} {p : List Int} (hp : ps[i]? = some p) : RowC W b (o + offP ps i) (p.map (Value.int .u8)) := by
  intro j u hu
  have hj : j < p.length := by have := (List.getElem?_eq_some_iff.1 hu).1; simpa using this
  rw [Nat.add_assoc]
  refine h _ _ ?_
  unfold cellsP
  rw [List.getElem?_map, flat_at hp j hj, ← List.getElem?_map]
  exact hu

set_option maxRecDepth 100000 in
theorem listLen_any (tv : Value) (ba : Option Addr) (n bc : Nat) (w : World) :
    Calls Tryd.prog 21 #[.agg #[tv, .slice ba n bc]] w fun e w' => e = .returned (.int .i64 n) ∧ Below w.heap.size w w' := by
  go_enter Tryd.func21, Tryd.ntmps21
  go_wp2
  go_ret
  exact ⟨rfl, below_new _ _⟩

set_option maxRecDepth 100000 in
theorem listEnd_any (ta ba : Option Addr) (tc bc : Nat) (ps : List (List Int)) (i : Nat) (hi : i ≤ ps.length) (w : World) (h : ListP w ta tc ba bc ps) :
    Calls Tryd.prog 37 #[.agg #[.slice ta ps.flatten.length tc, .slice ba ps.length bc], .int .i64 i] w fun e w' => e = .returned (.int .i64 (offP ps i)) ∧ Below w.heap.size w w' := by
  have HB := Lib.hid (below_new w (.cells #[.slice ta ps.flatten.length tc, .slice ba ps.length bc] 47))
  have hmax := h.bmax
  have hbc := h.bcap
  by_cases he : i = ps.length
  · have HO : Hid (offP ps i = ps.flatten.length) := Lib.hid (by rw [he]; exact offP_all ps)
    have d : decide ((i : Int) = (ps.length : Int)) = true := decide_eq_true (by omega)
    obtain ⟨n, hn⟩ : ∃ n, n = ps.length := ⟨_, rfl⟩
    obtain ⟨N, hN⟩ : ∃ N, N = ps.flatten.length := ⟨_, rfl⟩
    rw [← hn] at d he HB ⊢
    rw [← hN] at HO HB ⊢
    rw [HO.out]
    clear hn hN HO h hmax hbc hi
    subst he
    go_enter Tryd.func37, Tryd.ntmps37
    go_wp2
    go_ret
    exact ⟨rfl, HB.out⟩
  · have hlt : i < ps.length := by omega
    obtain ⟨b, o, rfl, hr⟩ := h.begins (by omega)
    have c0 := begin_at (hr.below HB.out) hlt
    have hcap : ps.length ≤ bc := h.bcap
    obtain ⟨n, hn⟩ : ∃ n, n = ps.length := ⟨_, rfl⟩
    obtain ⟨N, hN⟩ : ∃ N, N = ps.flatten.length := ⟨_, rfl⟩
    rw [← hn] at hlt HB c0 he ⊢
    rw [← hN] at HB c0 ⊢
    generalize offP ps i = R at c0 ⊢
    have d : decide ((i : Int) = (n : Int)) = false := by simp; omega
    have d' : ¬ i = n := he
    have i0 : (0 : Int) ≤ (i : Int) := by omega
    have i1 : (i : Int) < (n : Int) := by omega
    clear hn hN h hr hmax hbc hcap hi
    go_enter Tryd.func37, Tryd.ntmps37
    go_wp2
    go_ret
    exact ⟨rfl, HB.out⟩

theorem boxl_step {w u v : World} {b : Nat} {x y : Value} (h : u.cell? ⟨b, 0, none⟩ = some x ∧ u.cell? ⟨b, 1, none⟩ = some y ∧ Below w.heap.size w u) (k : Below u.heap.size u v) :
    v.cell? ⟨b, 0, none⟩ = some x ∧ v.cell? ⟨b, 1, none⟩ = some y ∧ Below w.heap.size w v := ⟨cell_below k h.1, cell_below k h.2.1, below_step h.2.2 k⟩
theorem boxl_below {w u : World} {b : Nat} {x y : Value} (h : u.cell? ⟨b, 0, none⟩ = some x ∧ u.cell? ⟨b, 1, none⟩ = some y ∧ Below w.heap.size w u) : Below w.heap.size w u := h.2.2

set_option maxRecDepth 100000 in
set_option maxHeartbeats 2000000 in
theorem listAt_any (ta ba : Option Addr) (tc bc : Nat) (ps : List (List Int)) (i : Nat) (p : List Int) (hp : ps[i]? = some p) (w : World) (h : ListP w ta tc ba bc ps) :
    Calls Tryd.prog 28 #[.agg #[.slice ta ps.flatten.length tc, .slice ba ps.length bc], .int .i64 ((i : Int) + 1)] w fun e w' => ∃ b o, e = .returned (.slice (some ⟨b, o, none⟩) p.length p.length) ∧ RowC w' b o (p.map (Value.int .u8)) ∧ Below w.heap.size w w' := by
  have hi : i < ps.length := (List.getElem?_eq_some_iff.1 hp).1
  have hpl : 0 < p.length := h.full p (List.mem_of_getElem? hp)
  have hnx := offP_next hp
  have hle := offP_le (ps := ps) (i := i + 1) (by omega)
  obtain ⟨b, o, rfl, hr⟩ := h.terms (by omega)
  have HROW := Lib.hid (row_at hr hp)
  have HB := Lib.hid (below_new w (.cells #[.slice (some ⟨b, o, none⟩) ps.flatten.length tc, .slice ba ps.length bc] 47))
  have ME : Hid (∀ W, Below w.heap.size w W → Calls Tryd.prog 37 #[.agg #[.slice (some ⟨b, o, none⟩) ps.flatten.length tc, .slice ba ps.length bc], .int .i64 ((i : Int) + 1)] W fun e w' => e = .returned (.int .i64 (offP ps (i + 1))) ∧ Below W.heap.size W w') := Lib.hid (fun W hW => by
    have := listEnd_any (some ⟨b, o, none⟩) ba tc bc ps (i + 1) (by omega) W (h.below hW)
    rwa [show ((i + 1 : Nat) : Int) = (i : Int) + 1 by omega] at this)
  have MB := Lib.hid (fun W (hW : Below w.heap.size w W) => listEnd_any (some ⟨b, o, none⟩) ba tc bc ps i (by omega) W (h.below hW))
  have htc := h.tcap
  have htm := h.tmax
  have hbm := h.bmax
  have hbc := h.bcap
  have HC0 : Hid ((w.alloc (.cells #[.slice (some ⟨b, o, none⟩) ps.flatten.length tc, .slice ba ps.length bc] 47)).cell? ⟨w.heap.size, 0, none⟩ = some (.slice (some ⟨b, o, none⟩) ps.flatten.length tc)) := Lib.hid (by rw [World.cell?_alloc_at _ _ _ _ rfl]; rfl)
  have HC1 : Hid ((w.alloc (.cells #[.slice (some ⟨b, o, none⟩) ps.flatten.length tc, .slice ba ps.length bc] 47)).cell? ⟨w.heap.size, 1, none⟩ = some (.slice ba ps.length bc)) := Lib.hid (by rw [World.cell?_alloc_at _ _ _ _ rfl]; rfl)
  obtain ⟨n, hn⟩ : ∃ n, n = ps.length := ⟨_, rfl⟩
  obtain ⟨N, hN⟩ : ∃ N, N = ps.flatten.length := ⟨_, rfl⟩
  rw [← hn] at hi HB ME MB HC0 HC1 hbc hbm ⊢
  rw [← hN] at HB hle htc htm ME MB HC0 HC1 ⊢
  generalize offP ps (i + 1) = R1 at ME hnx hle
  generalize offP ps i = R0 at MB hnx HROW
  clear hn hN h hr hp
  obtain ⟨l, hl⟩ : ∃ l, l = p.length := ⟨_, rfl⟩
  have HLL := Lib.hid hl
  rw [← hl] at hnx hpl ⊢
  clear hl
  have e1 : IntKind.i64.wrap ((i : Int) + 1) = (i : Int) + 1 := IntWalk.i64_in _ (by omega)
  have e2 : IntKind.i64.wrap ((i : Int) + 1 - 1) = (i : Int) := (IntWalk.i64_in _ (by omega)).trans (by omega)
  have e3 : IntKind.i64.wrap (i : Int) = (i : Int) := IntWalk.i64_in _ (by omega)
  go_enter Tryd.func28, Tryd.ntmps28
  go_wp2_with (go_at_call 37; refine (ME.out _ HB.out).mono ?_; rintro e w1 ⟨rfl, hB1⟩)
  have D0 : Hid (w1.cell? ⟨w.heap.size, 0, none⟩ = some (.slice (some ⟨b, o, none⟩) N tc) ∧ w1.cell? ⟨w.heap.size, 1, none⟩ = some (.slice ba n bc) ∧ Below w.heap.size w w1) := Lib.hid ⟨cell_below hB1 HC0.out, cell_below hB1 HC1.out, below_step HB.out hB1⟩
  have D1 : Hid (w1.drew.cell? ⟨w.heap.size, 0, none⟩ = some (.slice (some ⟨b, o, none⟩) N tc) ∧ w1.drew.cell? ⟨w.heap.size, 1, none⟩ = some (.slice ba n bc) ∧ Below w.heap.size w w1.drew) := Lib.hid ⟨D0.out.1, D0.out.2.1, D0.out.2.2.trans ⟨rfl, rfl, rfl, Nat.le_refl _, fun _ _ => rfl⟩⟩
  clear hB1 HC0 HC1 HB ME
  have a0 : (0 : Int) ≤ (R0 : Int) := by omega
  have a1 : (R0 : Int) ≤ (R1 : Int) := by omega
  have a2 : (R1 : Int) ≤ (tc : Int) := by omega
  have a3 : R0 ≤ R1 := by omega
  have a4 : R1 ≤ tc := by omega
  have a5 : ¬ R1 = R0 := by omega
  have a6 : (0 : Int) ≤ (R1 : Int) := by omega
  have f0 : (0 : Int) ≤ (R0 : Int) + (l : Int) := by omega
  have f1 : (R0 : Int) + (l : Int) ≤ (tc : Int) := by omega
  have f2 : R0 + l ≤ tc := by omega
  have f3 : (R0 : Int) ≤ (R0 : Int) + (l : Int) := by omega
  have f4 : ¬ l = 0 := by omega
  have f5 : ((R0 : Int) + (l : Int)).toNat = R0 + l := by omega
  go_region_held3 (fun W' => W'.cell? ⟨w.heap.size, 0, none⟩ = some (.slice (some ⟨b, o, none⟩) N tc) ∧ W'.cell? ⟨w.heap.size, 1, none⟩ = some (.slice ba n bc) ∧ Below w.heap.size w W') ((first | assumption | exact D0.out | exact D1.out | exact boxl_step (by assumption) (by assumption))) ((go_at_call 37; refine (MB.out _ (boxl_below (by assumption))).mono ?_; rintro e y0 ⟨rfl, hY0⟩))
  all_goals
    rename_i hHeld
    have HF := Lib.hid (boxl_below hHeld)
    clear hHeld
    go_wp2_with fail
    go_ret
    exact ⟨b, o + R0, rfl, HROW.out.below HF.out, HF.out⟩
end Go.Proofs.YtlamdhklfibjmaaDoor
