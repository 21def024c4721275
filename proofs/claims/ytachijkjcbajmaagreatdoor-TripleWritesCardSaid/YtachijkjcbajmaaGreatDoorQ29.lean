/-
  WHAT THE PROOF STANDS ON, a part of it: LexQuoted.
-/
import Derived.Test.YtachijkjcbajmaaGreatDoorQ24
/-
  CONTRACTS OF THE TAKERS quoted, iri.
-/

namespace Go.Proofs.YtachijkjcbajmaaGreatDoor
open Go.RowKit
open Utf Term Lex
set_option linter.unusedVariables false
set_option linter.unusedSimpArgs false

theorem shortE_byte {c y : Int} (h : shortE c = some y) : IsByte y := by
  unfold shortE at h
  unfold IsByte
  repeat' split at h
  all_goals first | (cases h; done) | (injection h with h; omega)
theorem escL_bytes {all : Bool} {l b : List Int} {k : Nat} (h : escL all l = some (b, k)) : ∀ c ∈ b, IsByte c := by
  cases l with
  | nil => cases h
  | cons c r =>
    have hn : ∀ n, numL n r = some (b, k) → ∀ c ∈ b, IsByte c := by
      intro n h
      unfold numL at h
      split at h
      · rename_i h1
        simp only [Option.some.injEq, Prod.mk.injEq] at h
        rw [← h.1]
        exact enc_bytes h1.2.2
      · cases h
    rw [escL] at h
    split at h
    · exact hn 4 h
    · split at h
      · exact hn 8 h
      · split at h
        · cases hs : shortE c with
          | none => rw [hs] at h; cases h
          | some y =>
            rw [hs] at h
            simp only [Option.map_some, Option.some.injEq, Prod.mk.injEq] at h
            rw [← h.1]
            intro d hd
            rw [List.mem_singleton.1 hd]
            exact shortE_byte hs
        · cases h
theorem den_bytes {nl all : Bool} {stop : Int} : ∀ {n : Nat} {l t : List Int} {k : Nat}, l.length ≤ n → (∀ c ∈ l, IsByte c) → den nl all stop l = some (t, k) → (∀ c ∈ t, IsByte c) ∧ t.length ≤ l.length
  | n, [], t, k, _, _, h => by cases h
  | 0, c :: l, t, k, hn, _, h => by simp at hn
  | n + 1, c :: l, t, k, hn, hb, h => by
    simp only [List.length_cons] at hn ⊢
    rw [den_cons] at h
    split at h
    · simp only [Option.some.injEq, Prod.mk.injEq] at h
      rw [← h.1]
      simp
    · split at h
      · cases h
      · split at h
        · cases he : escL all l with
          | none => rw [he] at h; cases h
          | some x =>
            obtain ⟨b, k'⟩ := x
            rw [he] at h
            have hp := escL_pos he
            have hl := escL_len he
            simp only at h
            cases hd : den nl all stop (l.drop (k' - 1)) with
            | none => rw [hd] at h; cases h
            | some y =>
              obtain ⟨t', k2⟩ := y
              rw [hd] at h
              simp only [Option.map_some, Option.some.injEq, Prod.mk.injEq] at h
              have := den_bytes (n := n) (by rw [List.length_drop]; omega) (fun d hd => hb d (List.mem_cons_of_mem _ (List.mem_of_mem_drop hd))) hd
              rw [List.length_drop] at this
              rw [← h.1]
              refine ⟨fun d hd => (List.mem_append.1 hd).elim (escL_bytes he d) (this.1 d), ?_⟩
              rw [List.length_append]
              omega
        · cases hd : den nl all stop l with
          | none => rw [hd] at h; cases h
          | some y =>
            obtain ⟨t', k2⟩ := y
            rw [hd] at h
            simp only [Option.map_some, Option.some.injEq, Prod.mk.injEq] at h
            have := den_bytes (n := n) (by omega) (fun d hd => hb d (List.mem_cons_of_mem _ hd)) hd
            rw [← h.1]
            refine ⟨fun d hd => ?_, by rw [List.length_cons]; omega⟩
            rcases List.mem_cons.1 hd with rfl | hd
            · exact hb _ (by simp)
            · exact this.1 d hd

theorem denE_none : denE none = badE := rfl
theorem denE_some (t : List Int) (n : Nat) : denE (some (t, n)) = .returned (.tuple #[.string (strOfNums t), .int .i64 ((1 + n : Nat) : Int)]) := rfl

set_option maxRecDepth 100000 in
set_option maxHeartbeats 2000000 in
theorem quoted_no (rp : Nat) (s : ByteArray) (a : Nat) (w : World) (h : RdAt w rp s a) (hc : [34].isPrefixOf ((bs s).drop a) = false) :
    Calls Tryz.prog 82 #[.pointer (some ⟨rp, 0, none⟩)] w fun e w' => e = tookE .no ∧ Below w.heap.size w w' := by
  have HB := Lib.hid (below_lex w (.cells zeroC 43))
  have HZ := Lib.hid (block_new w zeroC 43)
  have HR := Lib.hid (h.below HB.out).rest
  have hr := rest_size s a
  have hs := h.sz
  have hl := bs_from s a
  rw [← hl] at hc
  generalize (s.extract a s.size) = r at *
  clear h hr hs hl
  have HP := Lib.hid (fun W => hasPrefix_at r ⟨#[34]⟩ _ [34] rfl rfl _ hc W)
  clear hc
  go_enter Tryz.func82, Tryz.ntmps82
  go_wp2_with (go_at_call 98; refine HR.out.mono ?_; rintro e w1 ⟨rfl, hB1⟩)
  have HB1 := Lib.hid (below_next HB.out hB1)
  have HZ1 := Lib.hid (HZ.out.kept hB1)
  clear hB1
  have k0 := HZ1.out.cell (j := 0) rfl
  have k1 := HZ1.out.cell (j := 1) rfl
  have k2 := HZ1.out.cell (j := 2) rfl
  have k3 := HZ1.out.cell (j := 3) rfl
  have k4 := HZ1.out.cell (j := 4) rfl
  have k5 := HZ1.out.cell (j := 5) rfl
  have kf : ∀ j, w1.frozen? ⟨w.heap.size, j, none⟩ = false := fun j => HZ1.out.free j
  go_wp2_with (go_at_call 97; refine (HP.out _).mono ?_; rintro e w' ⟨rfl, rfl⟩)
  refine bodyPost_ret (results_lex rfl _ _ _ w.heap.size 43 _ (0, 0) _ rfl (HZ1.out.set6 _ _ _ _ _ _) Tryz.underlying43 (by kernel_rfl)) rfl ⟨rfl, below_set6 HB1.out (Nat.le_refl _) _ _ _ _ _ _⟩

set_option maxRecDepth 100000 in
set_option maxHeartbeats 4000000 in
theorem quoted_any2 (hE : EscOK) (rp : Nat) (s : ByteArray) (a : Nat) (w : World) (h : RdAt w rp s a) (hv : ErrVar w) :
    Calls Tryz.prog 82 #[.pointer (some ⟨rp, 0, none⟩)] w fun e w' => e = tookE (quotedT ((bs s).drop a)) ∧ Below w.heap.size w w' := by
  cases hc : [34].isPrefixOf ((bs s).drop a) with
  | false =>
    have hv : quotedT ((bs s).drop a) = .no := by unfold quotedT; rw [if_neg (by rw [hc]; decide)]
    rw [hv]
    exact quoted_no rp s a w h hc
  | true =>
    have hq : quotedT ((bs s).drop a) = match den true true 34 (((bs s).drop a).drop 1) with | none => .bad | some (t, n) => .got (symT 3 t) (1 + n) := by unfold quotedT; rw [if_pos hc]; rfl
    rw [hq]
    clear hq
    have HB := Lib.hid (below_lex w (.cells zeroC 43))
    have HZ := Lib.hid (block_new w zeroC 43)
    have HR := Lib.hid (h.below HB.out).rest
    have hr := rest_size s a
    have hs := h.sz
    have hl := bs_from s a
    rw [← hl] at hc ⊢
    clear hl
    generalize (s.extract a s.size) = r at *
    have hrs : r.size ≤ 1000000000 := by omega
    have hk0 := prefix_len hc
    rw [bs_length] at hk0
    simp only [List.length_cons, List.length_nil, Nat.zero_add, Nat.reduceAdd] at hk0
    have HP := Lib.hid (fun W => hasPrefix_at r ⟨#[34]⟩ _ [34] rfl rfl _ hc W)
    clear h hr hs hc
    have HC := Lib.hid (fun W hW => denoted_any hE r 34 true hk0 hrs (by decide) W (hv.below (w := w) hW))
    cases hd : den true true 34 ((bs r).drop 1) with
    | none =>
      rw [hd] at HC
      simp only [denE_none] at HC
      clear hd hE hv
      go_enter Tryz.func82, Tryz.ntmps82
      go_wp2_with (go_at_call 98; refine HR.out.mono ?_; rintro e w1 ⟨rfl, hB1⟩)
      have HB1 := Lib.hid (below_next HB.out hB1)
      have HZ1 := Lib.hid (HZ.out.kept hB1)
      clear hB1
      go_wp2_with (go_at_call 97; refine (HP.out _).mono ?_; rintro e w' ⟨rfl, rfl⟩)
      go_wp2_with (go_at_call 103; refine (HC.out _ HB1.out).mono ?_; rintro e w2 ⟨rfl, hB2⟩)
      exact ⟨rfl, rfl, below_next HB1.out hB2⟩
    | some x =>
      obtain ⟨t, n⟩ := x
      rw [hd] at HC
      simp only [denE_some] at HC
      clear hd hE hv
      go_enter Tryz.func82, Tryz.ntmps82
      go_wp2_with (go_at_call 98; refine HR.out.mono ?_; rintro e w1 ⟨rfl, hB1⟩)
      have HB1 := Lib.hid (below_next HB.out hB1)
      have HZ1 := Lib.hid (HZ.out.kept hB1)
      clear hB1
      go_wp2_with (go_at_call 97; refine (HP.out _).mono ?_; rintro e w' ⟨rfl, rfl⟩)
      go_wp2_with fail
      refine (HC.out _ HB1.out).mono ?_
      rintro e w2 ⟨rfl, hB2⟩
      have HB2 := Lib.hid (below_next HB1.out hB2)
      have HZ2 := Lib.hid (HZ1.out.kept hB2)
      clear hB2
      have k0 := HZ2.out.cell (j := 0) rfl
      have k1 := HZ2.out.cell (j := 1) rfl
      have k2 := HZ2.out.cell (j := 2) rfl
      have k3 := HZ2.out.cell (j := 3) rfl
      have k4 := HZ2.out.cell (j := 4) rfl
      have k5 := HZ2.out.cell (j := 5) rfl
      have kf : ∀ j, w2.frozen? ⟨w.heap.size, j, none⟩ = false := fun j => HZ2.out.free j
      go_wp2
      refine bodyPost_ret (results_lex rfl _ _ _ w.heap.size 43 _ (0, 0) _ rfl (HZ2.out.set6 _ _ _ _ _ _) Tryz.underlying43 (by kernel_rfl)) rfl ⟨rfl, below_set6 HB2.out (Nat.le_refl _) _ _ _ _ _ _⟩

theorem field_text (k : Int) (t x : ByteArray) (W : World) : (Instr.field 31 (.agg #[.int .i64 k, .string t, .string x]) 2).run Tryz.prog W = .ok (.string x) W := by kernel_rfl

set_option maxRecDepth 100000 in
set_option maxHeartbeats 2000000 in
theorem iri_no (rp : Nat) (s : ByteArray) (a : Nat) (w : World) (h : RdAt w rp s a) (hc : [60].isPrefixOf ((bs s).drop a) = false) :
    Calls Tryz.prog 83 #[.pointer (some ⟨rp, 0, none⟩)] w fun e w' => e = tookE .no ∧ Below w.heap.size w w' := by
  have HB := Lib.hid (below_lex w (.cells zeroC 43))
  have HZ := Lib.hid (block_new w zeroC 43)
  have HR := Lib.hid (h.below HB.out).rest
  have hr := rest_size s a
  have hs := h.sz
  have hl := bs_from s a
  rw [← hl] at hc
  generalize (s.extract a s.size) = r at *
  clear h hr hs hl
  have HP := Lib.hid (fun W => hasPrefix_at r ⟨#[60]⟩ _ [60] rfl rfl _ hc W)
  clear hc
  go_enter Tryz.func83, Tryz.ntmps83
  go_wp2_with (go_at_call 98; refine HR.out.mono ?_; rintro e w1 ⟨rfl, hB1⟩)
  have HB1 := Lib.hid (below_next HB.out hB1)
  have HZ1 := Lib.hid (HZ.out.kept hB1)
  clear hB1
  have k0 := HZ1.out.cell (j := 0) rfl
  have k1 := HZ1.out.cell (j := 1) rfl
  have k2 := HZ1.out.cell (j := 2) rfl
  have k3 := HZ1.out.cell (j := 3) rfl
  have k4 := HZ1.out.cell (j := 4) rfl
  have k5 := HZ1.out.cell (j := 5) rfl
  have kf : ∀ j, w1.frozen? ⟨w.heap.size, j, none⟩ = false := fun j => HZ1.out.free j
  go_wp2_with (go_at_call 97; refine (HP.out _).mono ?_; rintro e w' ⟨rfl, rfl⟩)
  refine bodyPost_ret (results_lex rfl _ _ _ w.heap.size 43 _ (0, 0) _ rfl (HZ1.out.set6 _ _ _ _ _ _) Tryz.underlying43 (by kernel_rfl)) rfl ⟨rfl, below_set6 HB1.out (Nat.le_refl _) _ _ _ _ _ _⟩

set_option maxRecDepth 100000 in
set_option maxHeartbeats 4000000 in
theorem iri_any2 (hE : EscOK) (rp : Nat) (s : ByteArray) (a : Nat) (m : Int) (w : World) (h : RdAt w rp s a) (hm : w.cell? ⟨1, 0, none⟩ = some (.int .i64 m)) (hv : ErrVar w) :
    Calls Tryz.prog 83 #[.pointer (some ⟨rp, 0, none⟩)] w fun e w' => e = tookE (iriT ((bs s).drop a)) ∧ Below w.heap.size w w' := by
  cases hc : [60].isPrefixOf ((bs s).drop a) with
  | false =>
    have hv : iriT ((bs s).drop a) = .no := by unfold iriT; rw [if_neg (by rw [hc]; decide)]
    rw [hv]
    exact iri_no rp s a w h hc
  | true =>
    have hq : iriT ((bs s).drop a) = match den true false 62 (((bs s).drop a).drop 1) with | none => .bad | some (t, n) => if isIRIB t = true then .got ⟨1, [], 1, t, [], 0⟩ (1 + n) else .bad := by unfold iriT; rw [if_pos hc]; rfl
    rw [hq]
    clear hq
    have HB := Lib.hid (below_lex w (.cells zeroC 43))
    have HZ := Lib.hid (block_new w zeroC 43)
    have HR := Lib.hid (h.below HB.out).rest
    have hr := rest_size s a
    have hs := h.sz
    have hl := bs_from s a
    rw [← hl] at hc ⊢
    clear hl
    generalize (s.extract a s.size) = r at *
    have hrs : r.size ≤ 1000000000 := by omega
    have hk0 := prefix_len hc
    rw [bs_length] at hk0
    simp only [List.length_cons, List.length_nil, Nat.zero_add, Nat.reduceAdd] at hk0
    have HP := Lib.hid (fun W => hasPrefix_at r ⟨#[60]⟩ _ [60] rfl rfl _ hc W)
    clear h hr hs hc
    have HC := Lib.hid (fun W hW => denoted_any hE r 62 false hk0 hrs (by decide) W (hv.below (w := w) hW))
    have hby := bs_byte r
    have hln := bs_length r
    cases hd : den true false 62 ((bs r).drop 1) with
    | none =>
      rw [hd] at HC
      simp only [denE_none] at HC
      clear hd hE hv hm hby hln
      go_enter Tryz.func83, Tryz.ntmps83
      go_wp2_with (go_at_call 98; refine HR.out.mono ?_; rintro e w1 ⟨rfl, hB1⟩)
      have HB1 := Lib.hid (below_next HB.out hB1)
      have HZ1 := Lib.hid (HZ.out.kept hB1)
      clear hB1
      go_wp2_with (go_at_call 97; refine (HP.out _).mono ?_; rintro e w' ⟨rfl, rfl⟩)
      go_wp2_with (go_at_call 103; refine (HC.out _ HB1.out).mono ?_; rintro e w2 ⟨rfl, hB2⟩)
      exact ⟨rfl, rfl, below_next HB1.out hB2⟩
    | some x =>
      obtain ⟨t, n⟩ := x
      rw [hd] at HC
      simp only [denE_some] at HC
      have hbt := den_bytes (Nat.le_refl _) (fun c hc => hby c (List.mem_of_mem_drop hc)) hd
      rw [List.length_drop, hln] at hbt
      have hst : (strOfNums t).size ≤ 1000000000000 := by rw [← bs_length, bs_strOfNums hbt.1]; omega
      have hiri := mayS_iri (strOfNums t)
      rw [bs_strOfNums hbt.1] at hiri
      simp only
      cases hi : isIRIB t with
      | true =>
        rw [hi] at hiri
        have HI := Lib.hid (fun W hW => valid_at 1 _ ⟨#[]⟩ _ hiri hst (by decide) m W (cell_kept_b (w := w) hW hm))
        rw [if_pos rfl]
        clear hd hE hv hm hbt hst hiri hi hby hln
        go_enter Tryz.func83, Tryz.ntmps83
        go_wp2_with (go_at_call 98; refine HR.out.mono ?_; rintro e w1 ⟨rfl, hB1⟩)
        have HB1 := Lib.hid (below_next HB.out hB1)
        have HZ1 := Lib.hid (HZ.out.kept hB1)
        clear hB1
        go_wp2_with (go_at_call 97; refine (HP.out _).mono ?_; rintro e w' ⟨rfl, rfl⟩)
        go_wp2_with (go_at_call 103; refine (HC.out _ HB1.out).mono ?_; rintro e w2 ⟨rfl, hB2⟩)
        have HB2 := Lib.hid (below_next HB1.out hB2)
        have HZ2 := Lib.hid (HZ1.out.kept hB2)
        clear hB2
        refine (HI.out _ HB2.out).mono ?_
        rintro e w3 ⟨rfl, hB3⟩
        have HB3 := Lib.hid (below_next HB2.out hB3)
        have HZ3 := Lib.hid (HZ2.out.kept hB3)
        clear hB3
        have k0 := HZ3.out.cell (j := 0) rfl
        have k1 := HZ3.out.cell (j := 1) rfl
        have k2 := HZ3.out.cell (j := 2) rfl
        have k3 := HZ3.out.cell (j := 3) rfl
        have k4 := HZ3.out.cell (j := 4) rfl
        have k5 := HZ3.out.cell (j := 5) rfl
        have kf : ∀ j, w3.frozen? ⟨w.heap.size, j, none⟩ = false := fun j => HZ3.out.free j
        go_wp2
        refine bodyPost_ret (results_lex rfl _ _ _ w.heap.size 43 _ (0, 0) _ rfl (HZ3.out.set6 _ _ _ _ _ _) Tryz.underlying43 (by kernel_rfl)) rfl ⟨rfl, below_set6 HB3.out (Nat.le_refl _) _ _ _ _ _ _⟩
      | false =>
        rw [hi] at hiri
        have HI := Lib.hid (fun W hW => valid_at 1 _ ⟨#[]⟩ _ hiri hst (by decide) m W (cell_kept_b (w := w) hW hm))
        rw [if_neg (by decide)]
        clear hd hE hv hm hbt hst hiri hi hby hln
        go_enter Tryz.func83, Tryz.ntmps83
        go_wp2_with (go_at_call 98; refine HR.out.mono ?_; rintro e w1 ⟨rfl, hB1⟩)
        have HB1 := Lib.hid (below_next HB.out hB1)
        have HZ1 := Lib.hid (HZ.out.kept hB1)
        clear hB1
        go_wp2_with (go_at_call 97; refine (HP.out _).mono ?_; rintro e w' ⟨rfl, rfl⟩)
        go_wp2_with (go_at_call 103; refine (HC.out _ HB1.out).mono ?_; rintro e w2 ⟨rfl, hB2⟩)
        have HB2 := Lib.hid (below_next HB1.out hB2)
        clear hB2
        refine (HI.out _ HB2.out).mono ?_
        rintro e w3 ⟨rfl, hB3⟩
        go_wp2
        exact ⟨rfl, rfl, below_next HB2.out hB3⟩
end Go.Proofs.YtachijkjcbajmaaGreatDoor
