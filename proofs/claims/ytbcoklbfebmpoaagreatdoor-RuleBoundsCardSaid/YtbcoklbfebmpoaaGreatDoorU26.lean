/-
  WHAT THE PROOF STANDS ON, a part of it: LexSkip, LexDenoted, LexQuoted, LexSkip2, LexTake, LexOneMath.
-/
import Derived.Test.YtbcoklbfebmpoaaGreatDoorU23
import Derived.Test.YtbcoklbfebmpoaaGreatDoorU10
import Derived.Lib.IndexLaws
import Derived.Deep.RegionWith
import Derived.Deep.RegionLaw
import Derived.Test.YtbcoklbfebmpoaaGreatDoorU5
import Derived.Test.YtbcoklbfebmpoaaGreatDoorU4
/-
  CONTRACTS OF lineLen AND (*reader).skip.
-/

namespace Go.Proofs.YtbcoklbfebmpoaaGreatDoor
open Go.RowKit
open Utf Term Lex
set_option linter.unusedVariables false
set_option linter.unusedSimpArgs false

/-- How many bytes there are before the first byte 10. -/
def lineL (l : List Int) : Nat := spanL (fun c => !decide (c = 10)) l
theorem runL_all {P : Int → Bool} {l : List Int} (h : ∀ c ∈ l, P c = true) : spanL P l = l.length := by
  unfold spanL
  induction l with
  | nil => rfl
  | cons c l ih =>
    rw [List.takeWhile_cons, if_pos (h c (by simp)), List.length_cons, List.length_cons, ih (fun d hd => h d (by simp [hd]))]
theorem runL_index {P : Int → Bool} : ∀ {l : List Int} {o : Nat} {x : Int}, l[o]? = some x → P x = false → (∀ k, k < o → ∀ y, l[k]? = some y → P y = true) → spanL P l = o
  | [], o, x, h, _, _ => by simp at h
  | c :: l, 0, x, h, hx, _ => by
    simp only [List.getElem?_cons_zero, Option.some.injEq] at h
    subst h
    unfold spanL
    rw [List.takeWhile_cons, if_neg (by rw [hx]; decide)]
    rfl
  | c :: l, o + 1, x, h, hx, hn => by
    have h0 := hn 0 (by omega) c rfl
    have := runL_index (P := P) (l := l) (o := o) (x := x) (by simpa using h) hx (fun k hk y hy => hn (k + 1) (by omega) y (by simpa using hy))
    unfold spanL at *
    rw [List.takeWhile_cons, if_pos h0, List.length_cons, this]
theorem lineL_index (s : ByteArray) : (0 ≤ Lib.indexByte s.data.toList 10 → Lib.indexByte s.data.toList 10 = lineL (bs s)) ∧ (Lib.indexByte s.data.toList 10 < 0 → lineL (bs s) = s.size) := by
  have hu : ∀ u : UInt8, ((u.toNat : Int) = 10) ↔ u = 10 := fun u => by
    constructor
    · intro h
      apply UInt8.toNat_inj.1
      show u.toNat = 10
      omega
    · rintro rfl; rfl
  constructor
  · intro h
    obtain ⟨o, ho⟩ : ∃ o : Nat, Lib.indexByte s.data.toList 10 = o := ⟨(Lib.indexByte s.data.toList 10).toNat, by omega⟩
    rw [ho]
    have h1 := Lib.indexByte_some ho
    have := runL_index (P := fun c => !decide (c = 10)) (l := bs s) (o := o) (x := 10) (by unfold bs; rw [List.getElem?_map, h1.1]; rfl) rfl (by
      intro k hk y hy
      unfold bs at hy
      rw [List.getElem?_map] at hy
      cases hk2 : s.data.toList[k]? with
      | none => rw [hk2] at hy; cases hy
      | some u =>
        rw [hk2] at hy
        simp only [Option.map_some, Option.some.injEq] at hy
        subst hy
        have hne := h1.2 k hk
        rw [hk2] at hne
        have : u ≠ 10 := fun e => hne (by rw [e])
        simp only [Bool.not_eq_true', decide_eq_false_iff_not, hu]
        exact this)
    unfold lineL
    rw [this]
  · intro h
    have h0 := Lib.indexByte_ge s.data.toList 10
    have h1 := Lib.indexByte_none (l := s.data.toList) (c := 10) (by omega)
    unfold lineL
    rw [runL_all, bs_length]
    intro c hc
    obtain ⟨k, hk⟩ := List.getElem?_of_mem hc
    unfold bs at hk
    rw [List.getElem?_map] at hk
    cases hk2 : s.data.toList[k]? with
    | none => rw [hk2] at hk; cases hk
    | some u =>
      rw [hk2] at hk
      simp only [Option.map_some, Option.some.injEq] at hk
      subst hk
      have : u ≠ 10 := fun e => h1 k (by rw [hk2, e])
      simp only [Bool.not_eq_true', decide_eq_false_iff_not, hu]
      exact this

theorem lineLen_any (s : ByteArray) (w : World) : Calls Tryz.prog 143 #[.string s] w fun e w' => e = .returned (.int .i64 (lineL (bs s) : Nat)) ∧ w = w' := by
  have HC := Lib.hid (Tryz.strings_IndexByte s 10 w)
  have HL := Lib.hid (lineL_index s)
  have e10 : (10 : Int).toNat.toUInt8 = 10 := rfl
  rw [e10] at HC
  clear e10
  generalize Lib.indexByte s.data.toList 10 = n at *
  by_cases h : 0 ≤ n
  · have d : decide (0 ≤ n) = true := by simpa using h
    go_enter Tryz.func143, Tryz.ntmps143
    go_wp2_with (go_at_call 156; refine HC.out.mono ?_; rintro e w' ⟨rfl, rfl⟩)
    go_ret
    exact ⟨ret_int (HL.out.1 h), rfl⟩
  · have d : decide (0 ≤ n) = false := by simpa using h
    go_enter Tryz.func143, Tryz.ntmps143
    go_wp2_with (go_at_call 156; refine HC.out.mono ?_; rintro e w' ⟨rfl, rfl⟩)
    go_ret
    exact ⟨ret_int (by rw [HL.out.2 (by omega)]), rfl⟩

set_option maxRecDepth 100000 in
theorem lexRest_quiet (rp : Nat) (s : ByteArray) (a : Nat) (ha : a ≤ s.size) (hs : s.size ≤ 1000000000000) (w : World) (h0 : w.cell? ⟨rp, 0, none⟩ = some (.string s)) (h1 : w.cell? ⟨rp, 1, none⟩ = some (.int .i64 a)) :
    Calls Tryz.prog 135 #[.pointer (some ⟨rp, 0, none⟩)] w fun e w' => e = .returned (.string (s.extract a s.size)) ∧ ∃ n, w' = w.drewN n := by
  have i0 : (0 : Int) ≤ (a : Int) := by omega
  have i1 : (a : Int) ≤ (s.size : Int) := by omega
  go_enter Tryz.func135, Tryz.ntmps135
  go_wp2
  go_quiet (fail)
  go_wp2
  go_ret
  exact ⟨rfl, _, rfl⟩

/-- All blocks but one are as they were; the heap has not shrunk. -/
structure Moves (g : Nat) (w w' : World) : Prop where
  os : w'.os = w.os
  tape : w'.tape = w.tape
  output : w'.output = w.output
  size : w.heap.size ≤ w'.heap.size
  block : ∀ k, k < w.heap.size → k ≠ g → w'.heap[k]? = w.heap[k]?
section
variable {g : Nat} {u v w : World}
theorem Moves.refl : Moves g w w := ⟨rfl, rfl, rfl, Nat.le_refl _, fun _ _ _ => rfl⟩
theorem Moves.of_below (h : Below w.heap.size w u) : Moves g w u := ⟨h.os, h.tape, h.output, h.size, fun k hk _ => h.block k hk⟩
theorem Moves.trans (h : Moves g u v) (k : Moves g v w) : Moves g u w :=
  ⟨k.os.trans h.os, k.tape.trans h.tape, k.output.trans h.output, Nat.le_trans h.size k.size, fun i hi hn => (k.block i (Nat.lt_of_lt_of_le hi h.size) hn).trans (h.block i hi hn)⟩
theorem Moves.set (h : Moves g u w) (i : Nat) (x : Value) : Moves g u (w.setCell ⟨g, i, none⟩ x) :=
  ⟨h.os, h.tape, h.output, Nat.le_trans h.size (by simp [World.setCell]), fun k hk hn => (Below.heap_setCell _ _ _ _ hn).trans (h.block k hk hn)⟩
theorem Moves.drew (h : Moves g u w) (n : Nat) : Moves g u (w.drewN n) := ⟨h.os, h.tape, h.output, h.size, h.block⟩
theorem Moves.at_ (h : Moves g w u) {b : Nat} {cs : Array Value} {t : TypeId} (k : BlockAt w b cs t) (hb : b ≠ g) : BlockAt u b cs t := by
  unfold BlockAt at *
  rw [h.block b (Array.getElem?_eq_some_iff.1 k).1 hb]
  exact k
theorem Moves.below {B : Nat} (h : Moves g w u) (hB : B ≤ w.heap.size) (hg : B ≤ g) : Below B w u :=
  ⟨h.os, h.tape, h.output, h.size, fun k hk => h.block k (by omega) (by omega)⟩
end
theorem BlockAt.drew {W : World} {g : Nat} {cs : Array Value} {t : TypeId} (h : BlockAt W g cs t) (n : Nat) : BlockAt (W.drewN n) g cs t := h

/-- A reader, whole. -/
structure Rd (W : World) (rp : Nat) (s : ByteArray) (a : Nat) (tv : Value) : Prop where
  blk : BlockAt W rp #[.string s, .int .i64 a, tv] 142
  le : a ≤ s.size
  sz : s.size ≤ 1000000000
theorem Rd.at_ {W : World} {rp : Nat} {s : ByteArray} {a : Nat} {tv : Value} (h : Rd W rp s a tv) : RdAt W rp s a := ⟨h.blk.cell (j := 0) rfl, h.blk.cell (j := 1) rfl, h.le, h.sz⟩
theorem Rd.below {W U : World} {rp : Nat} {s : ByteArray} {a : Nat} {tv : Value} (h : Rd W rp s a tv) (k : Below W.heap.size W U) : Rd U rp s a tv := ⟨h.blk.kept k, h.le, h.sz⟩
theorem Rd.set {W : World} {rp : Nat} {s : ByteArray} {a : Nat} {tv : Value} (h : Rd W rp s a tv) {b : Nat} (hb : b ≤ s.size) : Rd (W.setCell ⟨rp, 1, none⟩ (.int .i64 b)) rp s b tv := ⟨h.blk.set 1 _, hb, h.sz⟩

theorem sk_true (c : Int) (l : List Int) : sk true (c :: l) = if c = 10 then 1 + sk false l else 1 + sk true l := rfl
theorem sk_false (c : Int) (l : List Int) : sk false (c :: l) = if isWS c = true then 1 + sk false l else if c = 35 then 1 + sk true l else 0 := rfl
theorem sk_ws {c : Int} {l : List Int} {k : Nat} (h : l[k]? = some c) (hc : isWS c = true) : sk false (l.drop k) = 1 + sk false (l.drop (k + 1)) := by
  have hk := (List.getElem?_eq_some_iff.1 h).1
  rw [List.drop_eq_getElem_cons hk, (List.getElem?_eq_some_iff.1 h).2, sk_false, if_pos hc]
theorem sk_stop {c : Int} {l : List Int} {k : Nat} (h : l[k]? = some c) (hc : isWS c = false) (h35 : c ≠ 35) : sk false (l.drop k) = 0 := by
  have hk := (List.getElem?_eq_some_iff.1 h).1
  rw [List.drop_eq_getElem_cons hk, (List.getElem?_eq_some_iff.1 h).2, sk_false, if_neg (by rw [hc]; decide), if_neg h35]
theorem sk_line : ∀ (l : List Int), sk true l = lineL l + sk false (l.drop (lineL l))
  | [] => rfl
  | c :: l => by
    rw [sk_true]
    by_cases h : c = 10
    · have e : lineL (c :: l) = 0 := by unfold lineL spanL; rw [List.takeWhile_cons, if_neg (by simp [h])]; rfl
      rw [if_pos h, e, List.drop_zero, sk_false, if_pos (by rw [h]; rfl)]
      omega
    · have e : lineL (c :: l) = 1 + lineL l := by unfold lineL spanL; rw [List.takeWhile_cons, if_pos (by simp [h]), List.length_cons]; omega
      rw [if_neg h, sk_line l, e, Nat.add_comm 1 (lineL l), List.drop_succ_cons]
      omega
theorem sk_comment {l : List Int} {k : Nat} (h : l[k]? = some 35) : sk false (l.drop k) = lineL (l.drop k) + sk false (l.drop (k + lineL (l.drop k))) ∧ 1 ≤ lineL (l.drop k) ∧ k + lineL (l.drop k) ≤ l.length := by
  have hk := (List.getElem?_eq_some_iff.1 h).1
  have e : l.drop k = 35 :: l.drop (k + 1) := by rw [List.drop_eq_getElem_cons hk, (List.getElem?_eq_some_iff.1 h).2]
  have e2 : lineL (l.drop k) = 1 + lineL (l.drop (k + 1)) := by rw [e]; unfold lineL spanL; rw [List.takeWhile_cons, if_pos (by decide), List.length_cons]; omega
  refine ⟨?_, by omega, ?_⟩
  · rw [e2, e, sk_false, if_neg (by decide), if_pos rfl, sk_line, List.drop_drop, ← Nat.add_assoc, ← Nat.add_assoc]
  · have := runL_le (fun c => !decide (c = 10)) (l.drop k)
    rw [List.length_drop] at this
    unfold lineL
    omega
end Go.Proofs.YtbcoklbfebmpoaaGreatDoor

/-
  THE CONTRACT OF denoted, given escape's.
-/

namespace Go.Proofs.YtbcoklbfebmpoaaGreatDoor
open Go.RowKit
open Utf Term Lex
set_option linter.unusedVariables false
set_option linter.unusedSimpArgs false

/-- The library's variable ErrSyntax holds some error, or none. -/
def ErrVar (W : World) : Prop := ∃ ev, W.cell? ⟨4, 0, none⟩ = some ev ∧ (ev = .nilIface ∨ ∃ te pe, ev = .iface te pe)
theorem ErrVar.below {w u : World} (h : ErrVar w) (k : Below w.heap.size w u) : ErrVar u := by
  obtain ⟨ev, h1, h2⟩ := h
  exact ⟨ev, cell_kept_b k h1, h2⟩
def sigS : Bool → ByteArray
  | true => ⟨#[116, 98, 110, 114, 102, 34, 39, 92]⟩
  | false => ⟨#[]⟩
/-- What escape answers. -/
def Escaped (all : Bool) (l : List Int) (w : World) (e : Ending) (w' : World) : Prop :=
  Below w.heap.size w w' ∧
  match escL all l with
  | none => e = badE
  | some (b, k) => ∃ g cap, e = .returned (.tuple #[.slice (some ⟨g, 0, none⟩) b.length cap, .int .i64 (k : Nat)]) ∧ (∀ (j : Nat) (u : Value), (b.map (Value.int .u8))[j]? = some u → w'.cell? ((⟨g, 0, none⟩ : Addr).add j) = some u)
/-- The contract of escape. -/
def EscOK : Prop := ∀ (all : Bool) (q : ByteArray) (l : List Int) (W : World), bs q = 92 :: l → q.size ≤ 1000000000 → ErrVar W → Calls Tryz.prog 155 #[.string q, .string (sigS all)] W (Escaped all l W)

theorem escL_len {all : Bool} {l b : List Int} {k : Nat} (h : escL all l = some (b, k)) : 0 < b.length ∧ b.length ≤ k := by
  cases l with
  | nil => cases h
  | cons c r =>
    have hn : ∀ n, 4 ≤ n → numL n r = some (b, k) → 0 < b.length ∧ b.length ≤ k := by
      intro n hn h
      unfold numL at h
      split at h
      · simp only [Option.some.injEq, Prod.mk.injEq] at h
        have := enc_len (hexV (r.take n))
        have h2 := enc_ne (hexV (r.take n))
        rw [h.1] at this h2
        have := List.length_pos_iff.2 h2
        omega
      · cases h
    rw [escL] at h
    split at h
    · exact hn 4 (by omega) h
    · split at h
      · exact hn 8 (by omega) h
      · split at h
        · cases hs : shortE c with
          | none => rw [hs] at h; cases h
          | some y =>
            rw [hs] at h
            simp only [Option.map_some, Option.some.injEq, Prod.mk.injEq] at h
            obtain ⟨rfl, rfl⟩ := h
            simp
        · cases h

def denE : Option (List Int × Nat) → Ending
  | none => badE
  | some (t, n) => .returned (.tuple #[.string (strOfNums t), .int .i64 ((1 + n : Nat) : Int)])

theorem den_at {nl all : Bool} {stop c : Int} {l : List Int} {k : Nat} (h : l[k]? = some c) : den nl all stop (l.drop k) =
    if c = stop then some ([], 1)
    else if nl = true ∧ (c = 10 ∨ c = 13) then none
    else if c = 92 then
      match escL all (l.drop (k + 1)) with
      | none => none
      | some (b, m) => (den nl all stop (l.drop (k + m))).map fun x => (b ++ x.1, m + x.2)
    else (den nl all stop (l.drop (k + 1))).map fun x => (c :: x.1, 1 + x.2) := by
  have hk := (List.getElem?_eq_some_iff.1 h).1
  rw [List.drop_eq_getElem_cons hk, (List.getElem?_eq_some_iff.1 h).2, den_cons]
  cases he : escL all (l.drop (k + 1)) with
  | none => rfl
  | some x =>
    obtain ⟨b, m⟩ := x
    have := escL_pos he
    simp only
    rw [List.drop_drop, show k + 1 + (m - 1) = k + m by omega]

/-- What has been read so far, and what comes. -/
def DenSo (D : Option (List Int × Nat)) (all : Bool) (stop : Int) (l : List Int) (acc : List Int) (k : Nat) : Prop :=
  D = (den true all stop (l.drop k)).map fun x => (acc ++ x.1, k - 1 + x.2)
theorem DenSo.plain {D : Option (List Int × Nat)} {all : Bool} {stop c : Int} {l acc : List Int} {k : Nat} (h : DenSo D all stop l acc k) (hk : 1 ≤ k) (hc : l[k]? = some c) (h1 : c ≠ stop) (h2 : c ≠ 10) (h3 : c ≠ 13) (h4 : c ≠ 92) : DenSo D all stop l (acc ++ [c]) (k + 1) := by
  unfold DenSo at *
  rw [h, den_at hc, if_neg h1, if_neg (by intro h; exact h.2.elim h2 h3), if_neg h4, Option.map_map]
  congr 1
  funext x
  simp only [Function.comp, List.append_assoc, List.cons_append, List.nil_append, Prod.mk.injEq, true_and]
  omega
theorem DenSo.esc {D : Option (List Int × Nat)} {all : Bool} {stop : Int} {l acc b : List Int} {k m : Nat} (h : DenSo D all stop l acc k) (hk : 1 ≤ k) (hc : l[k]? = some 92) (h1 : (92 : Int) ≠ stop) (he : escL all (l.drop (k + 1)) = some (b, m)) : DenSo D all stop l (acc ++ b) (k + m) := by
  unfold DenSo at *
  rw [h, den_at hc, if_neg h1, if_neg (by intro h; exact h.2.elim (by decide) (by decide)), if_pos rfl, he, Option.map_map]
  congr 1
  funext x
  simp only [Function.comp, List.append_assoc, Prod.mk.injEq, true_and]
  omega
theorem DenSo.noEsc {D : Option (List Int × Nat)} {all : Bool} {stop : Int} {l acc : List Int} {k : Nat} (h : DenSo D all stop l acc k) (hc : l[k]? = some 92) (h1 : (92 : Int) ≠ stop) (he : escL all (l.drop (k + 1)) = none) : D = none := by
  unfold DenSo at *
  rw [h, den_at hc, if_neg h1, if_neg (by intro h; exact h.2.elim (by decide) (by decide)), if_pos rfl, he]
  rfl
theorem DenSo.line {D : Option (List Int × Nat)} {all : Bool} {stop c : Int} {l acc : List Int} {k : Nat} (h : DenSo D all stop l acc k) (hc : l[k]? = some c) (h1 : c ≠ stop) (h2 : c = 10 ∨ c = 13) : D = none := by
  unfold DenSo at *
  rw [h, den_at hc, if_neg h1, if_pos ⟨rfl, h2⟩]
  rfl
theorem DenSo.stop {D : Option (List Int × Nat)} {all : Bool} {stop : Int} {l acc : List Int} {k : Nat} (h : DenSo D all stop l acc k) (hk : 1 ≤ k) (hc : l[k]? = some stop) : D = some (acc, k) := by
  unfold DenSo at *
  rw [h, den_at hc, if_pos rfl]
  simp only [Option.map_some, List.append_nil, Option.some.injEq, Prod.mk.injEq, true_and]
  omega
theorem DenSo.end_ {D : Option (List Int × Nat)} {all : Bool} {stop : Int} {l acc : List Int} {k : Nat} (h : DenSo D all stop l acc k) (hk : l.length ≤ k) : D = none := by
  unfold DenSo at *
  rw [h, List.drop_eq_nil_of_le hk]
  rfl
theorem pre_one (x : Value) : ∀ (j : Nat) (u : Value), [x][j]? = some u → #[x][j]? = some u := by
  intro j u h
  match j, h with
  | 0, h => exact h
  | j + 1, h => simp at h

theorem own_kept {w w1 w2 : World} {e : TypeId} {k n : Nat} {v : Value} {xs : List Value} (h : w1.ownsRow w.heap.size e k v n xs) (hB : Below w1.heap.size w1 w2) : w2.ownsRow w.heap.size e k v n xs :=
  h.kept (row := none) ⟨hB.os, hB.tape, hB.output, hB.size, fun k hk _ => hB.block k hk⟩ (by cases hv : v.ownBlock <;> simp)

set_option maxRecDepth 100000 in
set_option maxHeartbeats 8000000 in
theorem denoted_any (hE : EscOK) (r : ByteArray) (stop : Int) (all : Bool) (h1 : 1 ≤ r.size) (hs : r.size ≤ 1000000000) (hst : stop ≠ 92) (w : World) (hv : ErrVar w) :
    Calls Tryz.prog 140 #[.string r, .int .u8 stop, .string (sigS all)] w fun e w' => e = denE (den true all stop ((bs r).drop 1)) ∧ Below w.heap.size w w' := by
  obtain ⟨i0, hi, hz0, hz1, hz2⟩ := info_parts info_u8
  obtain ⟨D, hD⟩ : ∃ D, D = den true all stop ((bs r).drop 1) := ⟨_, rfl⟩
  have HD : Hid (DenSo D all stop (bs r) [] 1) := Lib.hid (by
    unfold DenSo
    rw [hD]
    cases den true all stop ((bs r).drop 1) <;> simp)
  rw [← hD]
  clear hD
  obtain ⟨E, hEq⟩ : ∃ E, E = denE D := ⟨_, rfl⟩
  rw [← hEq]
  have HEq := Lib.hid hEq
  have HV := Lib.hid hv
  have HE := Lib.hid hE
  clear hEq hv hE
  generalize hsg : sigS all = sg at *
  have HS := Lib.hid hsg
  clear hsg
  go_enter Tryz.func140, Tryz.ntmps140
  go_wp2
  go_loopw [8, 9] (fun v i wr => ∃ (k : Nat) (acc : List Int), 1 ≤ k ∧ k ≤ r.size ∧ i = .int .i64 k ∧ acc.length ≤ k ∧ DenSo D all stop (bs r) acc k ∧ wr.ownsRow w.heap.size 5 1 v acc.length (acc.map (Value.int .u8)) ∧ Below w.heap.size w wr) (fun _ i _ => r.size - (intOf i).toNat)
  case atStart => exact ⟨1, [], Nat.le_refl _, h1, rfl, by simp, HD.out, World.ownsRow_nil _ _ _ _, Below.refl _ _⟩
  case round =>
    obtain ⟨k, acc, hk1, hk, rfl, hal, hso, hown, hB⟩ := hrel
    have HSo := Lib.hid hso
    have HO := Lib.hid hown
    have HB := Lib.hid hB
    have hwr := hB.size
    clear hso hown hB HD
    by_cases hlt : k < r.size
    · have HG := Lib.hid (bs_get r k hlt)
      by_cases c1 : (r[k].toNat : Int) = stop
      · have HF : Hid (E = .returned (.tuple #[.string (strOfNums acc), .int .i64 ((1 + k : Nat) : Int)])) := Lib.hid (by
          rw [HEq.out, HSo.out.stop hk1 (by rw [HG.out, c1])]; rfl)
        have e1 : ((r[k].toNat : Int) == stop) = true := by simpa using c1
        have ek : (((1 + k : Nat) : Int)) = (k : Int) + 1 := by omega
        rw [ek] at HF
        clear HSo HG c1 ek HEq
        rcases owns_forms HO.out with ⟨rfl, hx⟩ | ⟨g, cp, rfl, hg, hx, hcell⟩
        · have hs := nil_string wr
          rw [hx] at HF
          clear hx HO hwr
          go_wp2
          go_ret2
          exact ⟨HF.out.symm, HB.out⟩
        · have hs := owns_string (cap := cp) hx hcell hg (Below.refl _ wr)
          clear hx HO hcell hg
          go_wp2
          go_ret2
          exact ⟨HF.out.symm, HB.out⟩
      · have e1 : ((r[k].toNat : Int) == stop) = false := by simpa using c1
        by_cases c2 : (r[k].toNat : Int) = 10
        · have HF : Hid (E = badE) := Lib.hid (by rw [HEq.out, HSo.out.line HG.out c1 (.inl c2)]; rfl)
          have e2 : ((r[k].toNat : Int) == 10) = true := by simpa using c2
          clear HSo HG c1 c2 HEq HO
          go_wp2
          exact ⟨rfl, HF.out.symm, HB.out⟩
        · have e2 : ((r[k].toNat : Int) == 10) = false := by simpa using c2
          by_cases c3 : (r[k].toNat : Int) = 13
          · have HF : Hid (E = badE) := Lib.hid (by rw [HEq.out, HSo.out.line HG.out c1 (.inr c3)]; rfl)
            have e3 : ((r[k].toNat : Int) == 13) = true := by simpa using c3
            clear HSo HG c1 c2 c3 HEq HO
            go_wp2
            exact ⟨rfl, HF.out.symm, HB.out⟩
          · have e3 : ((r[k].toNat : Int) == 13) = false := by simpa using c3
            by_cases c4 : (r[k].toNat : Int) = 92
            · have e4 : ((r[k].toNat : Int) == 92) = true := by simpa using c4
              have hbq : bs (r.extract k r.size) = 92 :: (bs r).drop (k + 1) := by
                rw [bs_from, List.drop_eq_getElem_cons (by rw [bs_length]; exact hlt)]
                congr 1
                have := List.getElem?_eq_getElem (l := bs r) (i := k) (by rw [bs_length]; exact hlt)
                rw [HG.out] at this
                rw [← Option.some.inj this, c4]
              have HC := HE.out all (r.extract k r.size) _ wr hbq (by simp; omega) (HV.out.below (HB.out.mono (Nat.le_refl _)))
              rw [HS.out] at HC
              have hG92 : (bs r)[k]? = some 92 := by rw [HG.out, c4]
              cases hesc : escL all ((bs r).drop (k + 1)) with
              | none =>
                have HF : Hid (E = badE) := Lib.hid (by rw [HEq.out, HSo.out.noEsc hG92 (Ne.symm hst) hesc]; rfl)
                unfold Escaped at HC
                rw [hesc] at HC
                have HC2 := Lib.hid HC
                clear HSo HG c1 c2 c3 c4 HEq HO HC hesc hbq hG92
                go_wp2_with (go_at_call 155; refine HC2.out.mono ?_; rintro e w1 ⟨hB1, rfl⟩)
                exact ⟨rfl, HF.out.symm, HB.out.trans (hB1.mono hwr)⟩
              | some x =>
                obtain ⟨b, m⟩ := x
                have HN := Lib.hid (HSo.out.esc hk1 hG92 (Ne.symm hst) hesc)
                have hpos := escL_pos hesc
                have hlen := escL_len hesc
                rw [List.length_drop, bs_length] at hpos
                unfold Escaped at HC
                rw [hesc] at HC
                have HC2 := Lib.hid HC
                clear HSo HG c1 c2 c3 c4 HC hesc hbq hG92
                go_wp2_with fail
                refine HC2.out.mono ?_
                rintro e w1 ⟨hB1, g, cap, rfl, hcells⟩
                have HO1 := Lib.hid (own_kept HO.out hB1)
                have HB1 := Lib.hid (HB.out.trans (hB1.mono hwr))
                have hw1 := hB1.size
                have HX := Lib.hid hcells
                have W1 : IntKind.i64.wrap ((k : Int) + (m : Int)) = (k : Int) + (m : Int) := IntWalk.i64_in _ (by omega)
                clear hcells hB1 HO
                go_wp2_with (at_builtin; refine wpList_append_own _ rfl _ _ 105 rfl w.heap.size 5 i0 (.int .u8 0) 1 1 Tryz.underlying105 hi hz0 hz1 hz2 rfl (by decide) _ _ _ rfl HO1.out ⟨g, 0, none⟩ b.length cap (b.map (Value.int .u8)) rfl (by simp) HX.out (by intro u hu; obtain ⟨c, _, rfl⟩ := List.mem_map.1 hu; rfl) (by unfold maxLen; omega) (by omega) (by omega) ?_; intro v' w2 hown' hgrow _)
                have HB2 := Lib.hid (HB1.out.grown hgrow (by omega) (fun k e => (HO1.out.lt k e).1))
                have HO2 := Lib.hid hown'
                clear hgrow hown'
                go_roundw
                case rel => exact ⟨k + m, acc ++ b, by omega, by omega, by go_num, by rw [List.length_append]; omega, HN.out, by rw [List.length_append, List.map_append]; exact HO2.out, HB2.out⟩
                case measure => simp [intOf]; omega
            · have e4 : ((r[k].toNat : Int) == 92) = false := by simpa using c4
              have HN := Lib.hid (HSo.out.plain hk1 HG.out c1 c2 c3 c4)
              clear HSo HG c1 c2 c3 c4
              go_wp2_with (at_builtin; refine wpList_append_own _ rfl _ _ 105 rfl w.heap.size 5 i0 (.int .u8 0) 1 1 Tryz.underlying105 hi hz0 hz1 hz2 rfl (by decide) _ _ _ rfl (HO.out.alloc _) ⟨wr.heap.size, 0, none⟩ 1 1 [.int .u8 (r[k].toNat : Int)] rfl rfl (cells_new _ _ _ _ (pre_one _)) (by intro u hu; simp at hu; subst hu; rfl) (by unfold maxLen; omega) (by omega) (by simp; omega) ?_; intro v' w1 hown' hgrow _)
              have HB2 := Lib.hid ((HB.out.alloc hwr _).grown hgrow (by simp; omega) (fun k e => (HO.out.lt k e).1))
              have HO2 := Lib.hid hown'
              clear hgrow hown'
              go_roundw
              case rel => exact ⟨k + 1, acc ++ [(r[k].toNat : Int)], by omega, by omega, by go_num, by rw [List.length_append, List.length_singleton]; omega, HN.out, by rw [List.length_append, List.map_append]; exact HO2.out, HB2.out⟩
              case measure => simp [intOf]; omega
    · have hkk : (bs r).length ≤ k := by rw [bs_length]; omega
      have HF : Hid (E = badE) := Lib.hid (by rw [HEq.out, HSo.out.end_ hkk]; rfl)
      have d0 : decide (k < r.size) = false := by simp; omega
      clear HSo HEq hkk HO
      go_wp2
      exact ⟨rfl, HF.out.symm, HB.out⟩
end Go.Proofs.YtbcoklbfebmpoaaGreatDoor

/-
  CONTRACTS OF THE TAKERS quoted, iri.
-/

namespace Go.Proofs.YtbcoklbfebmpoaaGreatDoor
open Go.RowKit
open Utf Term Lex
set_option linter.unusedVariables false
set_option linter.unusedSimpArgs false

theorem shortE_byte {c y : Int} (h : shortE c = some y) : IsByte y := by
  unfold shortE at h
  unfold IsByte
  repeat' split at h
  all_goals first | (cases h; done) | (injection h with h; omega)
theorem escL_bytes {all : Bool} {l b : List Int} {k : Nat} (h : escL all l = some (b, k)) : ∀ c ∈ b, IsByte c := by
  cases l with
  | nil => cases h
  | cons c r =>
    have hn : ∀ n, numL n r = some (b, k) → ∀ c ∈ b, IsByte c := by
      intro n h
      unfold numL at h
      split at h
      · rename_i h1
        simp only [Option.some.injEq, Prod.mk.injEq] at h
        rw [← h.1]
        exact enc_bytes h1.2.2
      · cases h
    rw [escL] at h
    split at h
    · exact hn 4 h
    · split at h
      · exact hn 8 h
      · split at h
        · cases hs : shortE c with
          | none => rw [hs] at h; cases h
          | some y =>
            rw [hs] at h
            simp only [Option.map_some, Option.some.injEq, Prod.mk.injEq] at h
            rw [← h.1]
            intro d hd
            rw [List.mem_singleton.1 hd]
            exact shortE_byte hs
        · cases h
theorem den_bytes {nl all : Bool} {stop : Int} : ∀ {n : Nat} {l t : List Int} {k : Nat}, l.length ≤ n → (∀ c ∈ l, IsByte c) → den nl all stop l = some (t, k) → (∀ c ∈ t, IsByte c) ∧ t.length ≤ l.length
  | n, [], t, k, _, _, h => by cases h
  | 0, c :: l, t, k, hn, _, h => by simp at hn
  | n + 1, c :: l, t, k, hn, hb, h => by
    simp only [List.length_cons] at hn ⊢
    rw [den_cons] at h
    split at h
    · simp only [Option.some.injEq, Prod.mk.injEq] at h
      rw [← h.1]
      simp
    · split at h
      · cases h
      · split at h
        · cases he : escL all l with
          | none => rw [he] at h; cases h
          | some x =>
            obtain ⟨b, k'⟩ := x
            rw [he] at h
            have hp := escL_pos he
            have hl := escL_len he
            simp only at h
            cases hd : den nl all stop (l.drop (k' - 1)) with
            | none => rw [hd] at h; cases h
            | some y =>
              obtain ⟨t', k2⟩ := y
              rw [hd] at h
              simp only [Option.map_some, Option.some.injEq, Prod.mk.injEq] at h
              have := den_bytes (n := n) (by rw [List.length_drop]; omega) (fun d hd => hb d (List.mem_cons_of_mem _ (List.mem_of_mem_drop hd))) hd
              rw [List.length_drop] at this
              rw [← h.1]
              refine ⟨fun d hd => (List.mem_append.1 hd).elim (escL_bytes he d) (this.1 d), ?_⟩
              rw [List.length_append]
              omega
        · cases hd : den nl all stop l with
          | none => rw [hd] at h; cases h
          | some y =>
            obtain ⟨t', k2⟩ := y
            rw [hd] at h
            simp only [Option.map_some, Option.some.injEq, Prod.mk.injEq] at h
            have := den_bytes (n := n) (by omega) (fun d hd => hb d (List.mem_cons_of_mem _ hd)) hd
            rw [← h.1]
            refine ⟨fun d hd => ?_, by rw [List.length_cons]; omega⟩
            rcases List.mem_cons.1 hd with rfl | hd
            · exact hb _ (by simp)
            · exact this.1 d hd

theorem denE_none : denE none = badE := rfl
theorem denE_some (t : List Int) (n : Nat) : denE (some (t, n)) = .returned (.tuple #[.string (strOfNums t), .int .i64 ((1 + n : Nat) : Int)]) := rfl

set_option maxRecDepth 100000 in
set_option maxHeartbeats 2000000 in
theorem quoted_no (rp : Nat) (s : ByteArray) (a : Nat) (w : World) (h : RdAt w rp s a) (hc : [34].isPrefixOf ((bs s).drop a) = false) :
    Calls Tryz.prog 110 #[.pointer (some ⟨rp, 0, none⟩)] w fun e w' => e = tookE .no ∧ Below w.heap.size w w' := by
  have HB := Lib.hid (below_lex w (.cells zeroC 64))
  have HZ := Lib.hid (block_new w zeroC 64)
  have HR := Lib.hid (h.below HB.out).rest
  have hr := rest_size s a
  have hs := h.sz
  have hl := bs_from s a
  rw [← hl] at hc
  generalize (s.extract a s.size) = r at *
  clear h hr hs hl
  have HP := Lib.hid (fun W => hasPrefix_at r ⟨#[34]⟩ _ [34] rfl rfl _ hc W)
  clear hc
  go_enter Tryz.func110, Tryz.ntmps110
  go_wp2_with (go_at_call 135; refine HR.out.mono ?_; rintro e w1 ⟨rfl, hB1⟩)
  have HB1 := Lib.hid (below_next HB.out hB1)
  have HZ1 := Lib.hid (HZ.out.kept hB1)
  clear hB1
  have k0 := HZ1.out.cell (j := 0) rfl
  have k1 := HZ1.out.cell (j := 1) rfl
  have k2 := HZ1.out.cell (j := 2) rfl
  have k3 := HZ1.out.cell (j := 3) rfl
  have k4 := HZ1.out.cell (j := 4) rfl
  have k5 := HZ1.out.cell (j := 5) rfl
  have kf : ∀ j, w1.frozen? ⟨w.heap.size, j, none⟩ = false := fun j => HZ1.out.free j
  go_wp2_with (go_at_call 134; refine (HP.out _).mono ?_; rintro e w' ⟨rfl, rfl⟩)
  refine bodyPost_ret (results_lex rfl _ _ _ w.heap.size 64 _ (0, 0) _ rfl (HZ1.out.set6 _ _ _ _ _ _) Tryz.underlying64 (by kernel_rfl)) rfl ⟨rfl, below_set6 HB1.out (Nat.le_refl _) _ _ _ _ _ _⟩

set_option maxRecDepth 100000 in
set_option maxHeartbeats 4000000 in
theorem quoted_any2 (hE : EscOK) (rp : Nat) (s : ByteArray) (a : Nat) (w : World) (h : RdAt w rp s a) (hv : ErrVar w) :
    Calls Tryz.prog 110 #[.pointer (some ⟨rp, 0, none⟩)] w fun e w' => e = tookE (quotedT ((bs s).drop a)) ∧ Below w.heap.size w w' := by
  cases hc : [34].isPrefixOf ((bs s).drop a) with
  | false =>
    have hv : quotedT ((bs s).drop a) = .no := by unfold quotedT; rw [if_neg (by rw [hc]; decide)]
    rw [hv]
    exact quoted_no rp s a w h hc
  | true =>
    have hq : quotedT ((bs s).drop a) = match den true true 34 (((bs s).drop a).drop 1) with | none => .bad | some (t, n) => .got (symT 3 t) (1 + n) := by unfold quotedT; rw [if_pos hc]; rfl
    rw [hq]
    clear hq
    have HB := Lib.hid (below_lex w (.cells zeroC 64))
    have HZ := Lib.hid (block_new w zeroC 64)
    have HR := Lib.hid (h.below HB.out).rest
    have hr := rest_size s a
    have hs := h.sz
    have hl := bs_from s a
    rw [← hl] at hc ⊢
    clear hl
    generalize (s.extract a s.size) = r at *
    have hrs : r.size ≤ 1000000000 := by omega
    have hk0 := prefix_len hc
    rw [bs_length] at hk0
    simp only [List.length_cons, List.length_nil, Nat.zero_add, Nat.reduceAdd] at hk0
    have HP := Lib.hid (fun W => hasPrefix_at r ⟨#[34]⟩ _ [34] rfl rfl _ hc W)
    clear h hr hs hc
    have HC := Lib.hid (fun W hW => denoted_any hE r 34 true hk0 hrs (by decide) W (hv.below (w := w) hW))
    cases hd : den true true 34 ((bs r).drop 1) with
    | none =>
      rw [hd] at HC
      simp only [denE_none] at HC
      clear hd hE hv
      go_enter Tryz.func110, Tryz.ntmps110
      go_wp2_with (go_at_call 135; refine HR.out.mono ?_; rintro e w1 ⟨rfl, hB1⟩)
      have HB1 := Lib.hid (below_next HB.out hB1)
      have HZ1 := Lib.hid (HZ.out.kept hB1)
      clear hB1
      go_wp2_with (go_at_call 134; refine (HP.out _).mono ?_; rintro e w' ⟨rfl, rfl⟩)
      go_wp2_with (go_at_call 140; refine (HC.out _ HB1.out).mono ?_; rintro e w2 ⟨rfl, hB2⟩)
      exact ⟨rfl, rfl, below_next HB1.out hB2⟩
    | some x =>
      obtain ⟨t, n⟩ := x
      rw [hd] at HC
      simp only [denE_some] at HC
      clear hd hE hv
      go_enter Tryz.func110, Tryz.ntmps110
      go_wp2_with (go_at_call 135; refine HR.out.mono ?_; rintro e w1 ⟨rfl, hB1⟩)
      have HB1 := Lib.hid (below_next HB.out hB1)
      have HZ1 := Lib.hid (HZ.out.kept hB1)
      clear hB1
      go_wp2_with (go_at_call 134; refine (HP.out _).mono ?_; rintro e w' ⟨rfl, rfl⟩)
      go_wp2_with fail
      refine (HC.out _ HB1.out).mono ?_
      rintro e w2 ⟨rfl, hB2⟩
      have HB2 := Lib.hid (below_next HB1.out hB2)
      have HZ2 := Lib.hid (HZ1.out.kept hB2)
      clear hB2
      have k0 := HZ2.out.cell (j := 0) rfl
      have k1 := HZ2.out.cell (j := 1) rfl
      have k2 := HZ2.out.cell (j := 2) rfl
      have k3 := HZ2.out.cell (j := 3) rfl
      have k4 := HZ2.out.cell (j := 4) rfl
      have k5 := HZ2.out.cell (j := 5) rfl
      have kf : ∀ j, w2.frozen? ⟨w.heap.size, j, none⟩ = false := fun j => HZ2.out.free j
      go_wp2
      refine bodyPost_ret (results_lex rfl _ _ _ w.heap.size 64 _ (0, 0) _ rfl (HZ2.out.set6 _ _ _ _ _ _) Tryz.underlying64 (by kernel_rfl)) rfl ⟨rfl, below_set6 HB2.out (Nat.le_refl _) _ _ _ _ _ _⟩

set_option maxRecDepth 100000 in
set_option maxHeartbeats 2000000 in
theorem iri_no (rp : Nat) (s : ByteArray) (a : Nat) (w : World) (h : RdAt w rp s a) (hc : [60].isPrefixOf ((bs s).drop a) = false) :
    Calls Tryz.prog 111 #[.pointer (some ⟨rp, 0, none⟩)] w fun e w' => e = tookE .no ∧ Below w.heap.size w w' := by
  have HB := Lib.hid (below_lex w (.cells zeroC 64))
  have HZ := Lib.hid (block_new w zeroC 64)
  have HR := Lib.hid (h.below HB.out).rest
  have hr := rest_size s a
  have hs := h.sz
  have hl := bs_from s a
  rw [← hl] at hc
  generalize (s.extract a s.size) = r at *
  clear h hr hs hl
  have HP := Lib.hid (fun W => hasPrefix_at r ⟨#[60]⟩ _ [60] rfl rfl _ hc W)
  clear hc
  go_enter Tryz.func111, Tryz.ntmps111
  go_wp2_with (go_at_call 135; refine HR.out.mono ?_; rintro e w1 ⟨rfl, hB1⟩)
  have HB1 := Lib.hid (below_next HB.out hB1)
  have HZ1 := Lib.hid (HZ.out.kept hB1)
  clear hB1
  have k0 := HZ1.out.cell (j := 0) rfl
  have k1 := HZ1.out.cell (j := 1) rfl
  have k2 := HZ1.out.cell (j := 2) rfl
  have k3 := HZ1.out.cell (j := 3) rfl
  have k4 := HZ1.out.cell (j := 4) rfl
  have k5 := HZ1.out.cell (j := 5) rfl
  have kf : ∀ j, w1.frozen? ⟨w.heap.size, j, none⟩ = false := fun j => HZ1.out.free j
  go_wp2_with (go_at_call 134; refine (HP.out _).mono ?_; rintro e w' ⟨rfl, rfl⟩)
  refine bodyPost_ret (results_lex rfl _ _ _ w.heap.size 64 _ (0, 0) _ rfl (HZ1.out.set6 _ _ _ _ _ _) Tryz.underlying64 (by kernel_rfl)) rfl ⟨rfl, below_set6 HB1.out (Nat.le_refl _) _ _ _ _ _ _⟩

set_option maxRecDepth 100000 in
set_option maxHeartbeats 4000000 in
theorem iri_any2 (hE : EscOK) (rp : Nat) (s : ByteArray) (a : Nat) (m : Int) (w : World) (h : RdAt w rp s a) (hm : w.cell? ⟨1, 0, none⟩ = some (.int .i64 m)) (hv : ErrVar w) :
    Calls Tryz.prog 111 #[.pointer (some ⟨rp, 0, none⟩)] w fun e w' => e = tookE (iriT ((bs s).drop a)) ∧ Below w.heap.size w w' := by
  cases hc : [60].isPrefixOf ((bs s).drop a) with
  | false =>
    have hv : iriT ((bs s).drop a) = .no := by unfold iriT; rw [if_neg (by rw [hc]; decide)]
    rw [hv]
    exact iri_no rp s a w h hc
  | true =>
    have hq : iriT ((bs s).drop a) = match den true false 62 (((bs s).drop a).drop 1) with | none => .bad | some (t, n) => if isIRIB t = true then .got ⟨1, [], 1, t, [], 0⟩ (1 + n) else .bad := by unfold iriT; rw [if_pos hc]; rfl
    rw [hq]
    clear hq
    have HB := Lib.hid (below_lex w (.cells zeroC 64))
    have HZ := Lib.hid (block_new w zeroC 64)
    have HR := Lib.hid (h.below HB.out).rest
    have hr := rest_size s a
    have hs := h.sz
    have hl := bs_from s a
    rw [← hl] at hc ⊢
    clear hl
    generalize (s.extract a s.size) = r at *
    have hrs : r.size ≤ 1000000000 := by omega
    have hk0 := prefix_len hc
    rw [bs_length] at hk0
    simp only [List.length_cons, List.length_nil, Nat.zero_add, Nat.reduceAdd] at hk0
    have HP := Lib.hid (fun W => hasPrefix_at r ⟨#[60]⟩ _ [60] rfl rfl _ hc W)
    clear h hr hs hc
    have HC := Lib.hid (fun W hW => denoted_any hE r 62 false hk0 hrs (by decide) W (hv.below (w := w) hW))
    have hby := bs_byte r
    have hln := bs_length r
    cases hd : den true false 62 ((bs r).drop 1) with
    | none =>
      rw [hd] at HC
      simp only [denE_none] at HC
      clear hd hE hv hm hby hln
      go_enter Tryz.func111, Tryz.ntmps111
      go_wp2_with (go_at_call 135; refine HR.out.mono ?_; rintro e w1 ⟨rfl, hB1⟩)
      have HB1 := Lib.hid (below_next HB.out hB1)
      have HZ1 := Lib.hid (HZ.out.kept hB1)
      clear hB1
      go_wp2_with (go_at_call 134; refine (HP.out _).mono ?_; rintro e w' ⟨rfl, rfl⟩)
      go_wp2_with (go_at_call 140; refine (HC.out _ HB1.out).mono ?_; rintro e w2 ⟨rfl, hB2⟩)
      exact ⟨rfl, rfl, below_next HB1.out hB2⟩
    | some x =>
      obtain ⟨t, n⟩ := x
      rw [hd] at HC
      simp only [denE_some] at HC
      have hbt := den_bytes (Nat.le_refl _) (fun c hc => hby c (List.mem_of_mem_drop hc)) hd
      rw [List.length_drop, hln] at hbt
      have hst : (strOfNums t).size ≤ 1000000000000 := by rw [← bs_length, bs_strOfNums hbt.1]; omega
      have hiri := mayS_iri (strOfNums t)
      rw [bs_strOfNums hbt.1] at hiri
      simp only
      cases hi : isIRIB t with
      | true =>
        rw [hi] at hiri
        have HI := Lib.hid (fun W hW => valid_at 1 _ ⟨#[]⟩ _ hiri hst (by decide) m W (cell_kept_b (w := w) hW hm))
        rw [if_pos rfl]
        clear hd hE hv hm hbt hst hiri hi hby hln
        go_enter Tryz.func111, Tryz.ntmps111
        go_wp2_with (go_at_call 135; refine HR.out.mono ?_; rintro e w1 ⟨rfl, hB1⟩)
        have HB1 := Lib.hid (below_next HB.out hB1)
        have HZ1 := Lib.hid (HZ.out.kept hB1)
        clear hB1
        go_wp2_with (go_at_call 134; refine (HP.out _).mono ?_; rintro e w' ⟨rfl, rfl⟩)
        go_wp2_with (go_at_call 140; refine (HC.out _ HB1.out).mono ?_; rintro e w2 ⟨rfl, hB2⟩)
        have HB2 := Lib.hid (below_next HB1.out hB2)
        have HZ2 := Lib.hid (HZ1.out.kept hB2)
        clear hB2
        refine (HI.out _ HB2.out).mono ?_
        rintro e w3 ⟨rfl, hB3⟩
        have HB3 := Lib.hid (below_next HB2.out hB3)
        have HZ3 := Lib.hid (HZ2.out.kept hB3)
        clear hB3
        have k0 := HZ3.out.cell (j := 0) rfl
        have k1 := HZ3.out.cell (j := 1) rfl
        have k2 := HZ3.out.cell (j := 2) rfl
        have k3 := HZ3.out.cell (j := 3) rfl
        have k4 := HZ3.out.cell (j := 4) rfl
        have k5 := HZ3.out.cell (j := 5) rfl
        have kf : ∀ j, w3.frozen? ⟨w.heap.size, j, none⟩ = false := fun j => HZ3.out.free j
        go_wp2
        refine bodyPost_ret (results_lex rfl _ _ _ w.heap.size 64 _ (0, 0) _ rfl (HZ3.out.set6 _ _ _ _ _ _) Tryz.underlying64 (by kernel_rfl)) rfl ⟨rfl, below_set6 HB3.out (Nat.le_refl _) _ _ _ _ _ _⟩
      | false =>
        rw [hi] at hiri
        have HI := Lib.hid (fun W hW => valid_at 1 _ ⟨#[]⟩ _ hiri hst (by decide) m W (cell_kept_b (w := w) hW hm))
        rw [if_neg (by decide)]
        clear hd hE hv hm hbt hst hiri hi hby hln
        go_enter Tryz.func111, Tryz.ntmps111
        go_wp2_with (go_at_call 135; refine HR.out.mono ?_; rintro e w1 ⟨rfl, hB1⟩)
        have HB1 := Lib.hid (below_next HB.out hB1)
        have HZ1 := Lib.hid (HZ.out.kept hB1)
        clear hB1
        go_wp2_with (go_at_call 134; refine (HP.out _).mono ?_; rintro e w' ⟨rfl, rfl⟩)
        go_wp2_with (go_at_call 140; refine (HC.out _ HB1.out).mono ?_; rintro e w2 ⟨rfl, hB2⟩)
        have HB2 := Lib.hid (below_next HB1.out hB2)
        clear hB2
        refine (HI.out _ HB2.out).mono ?_
        rintro e w3 ⟨rfl, hB3⟩
        go_wp2
        exact ⟨rfl, rfl, below_next HB2.out hB3⟩
end Go.Proofs.YtbcoklbfebmpoaaGreatDoor

/-
  THE CONTRACT OF (*reader).skip.
-/

namespace Go.Proofs.YtbcoklbfebmpoaaGreatDoor
open Go.RowKit
open Utf Term Lex
set_option linter.unusedVariables false
set_option linter.unusedSimpArgs false

theorem Rd.setI {W : World} {rp : Nat} {s : ByteArray} {a : Nat} {tv : Value} (h : Rd W rp s a tv) {b : Nat} (hb : b ≤ s.size) {i : Int} (hi : i = b) : Rd (W.setCell ⟨rp, 1, none⟩ (.int .i64 i)) rp s b tv := by
  subst hi
  exact h.set hb
theorem Rd.drew {W : World} {rp : Nat} {s : ByteArray} {a : Nat} {tv : Value} (h : Rd W rp s a tv) (n : Nat) : Rd (W.drewN n) rp s a tv := ⟨h.blk.drew n, h.le, h.sz⟩

set_option maxRecDepth 100000 in
set_option maxHeartbeats 8000000 in
theorem skip_any (rp : Nat) (s : ByteArray) (a : Nat) (tv : Value) (w : World) (h : Rd w rp s a tv) :
    Calls Tryz.prog 114 #[.pointer (some ⟨rp, 0, none⟩)] w fun e w' => e = .returned (.tuple #[]) ∧ Rd w' rp s (a + sk false ((bs s).drop a)) tv ∧ Moves rp w w' := by
  obtain ⟨R, hR⟩ : ∃ R, R = a + sk false ((bs s).drop a) := ⟨_, rfl⟩
  rw [← hR]
  have HR := Lib.hid hR
  have H0 := Lib.hid h
  have hsz := h.sz
  have hle := h.le
  clear hR h
  go_enter Tryz.func114, Tryz.ntmps114
  go_wp2
  go_loopg [] s.size (fun g wr => ∃ k : Nat, k ≤ s.size ∧ s.size - k ≤ g ∧ R = k + sk false ((bs s).drop k) ∧ Rd wr rp s k tv ∧ Moves rp w wr)
  case atStart => exact ⟨a, hle, by omega, HR.out, H0.out, Moves.refl⟩
  case round =>
    obtain ⟨k, hk, hkg, hRk, hrd, hmv⟩ := hrel
    have HRk := Lib.hid hRk
    have HRd := Lib.hid hrd
    have HMv := Lib.hid hmv
    have c0 := hrd.at_.c0
    have c1 := hrd.at_.c1
    have kf : ∀ j, wr.frozen? ⟨rp, j, none⟩ = false := fun j => hrd.blk.free j
    clear hRk hrd hmv HR H0
    have b0 : (0 : Int) ≤ (k : Int) := by omega
    by_cases hlt : k < s.size
    · have b1 : (k : Int) < (s.size : Int) := by omega
      have HG := Lib.hid (bs_get s k hlt)
      cases e9 : ((s[k].toNat : Int) == 9) with
      | true =>
        have HS := Lib.hid (sk_ws HG.out (by unfold isWS; simp only [beq_iff_eq, beq_eq_false_iff_ne] at *; simp [*]))
        go_wp2_with fail
        go_quiet (fail)
        go_wp2_with fail
        go_quiet (fail)
        have W1 : IntKind.i64.wrap ((k : Int) + 1) = (k : Int) + 1 := IntWalk.i64_in _ (by omega)
        go_wp2
        go_roundg (s.size - (k + 1))
        case rel => exact ⟨k + 1, hlt, Nat.le_refl _, by rw [HRk.out, HS.out]; omega, (HRd.out.drew _).setI hlt (by omega), (HMv.out.drew _).set 1 _⟩
        case measure => omega
      | false =>
        cases e10 : ((s[k].toNat : Int) == 10) with
        | true =>
          have HS := Lib.hid (sk_ws HG.out (by unfold isWS; simp only [beq_iff_eq, beq_eq_false_iff_ne] at *; simp [*]))
          go_wp2_with fail
          go_quiet (fail)
          go_wp2_with fail
          go_quiet (fail)
          have W1 : IntKind.i64.wrap ((k : Int) + 1) = (k : Int) + 1 := IntWalk.i64_in _ (by omega)
          go_wp2
          go_roundg (s.size - (k + 1))
          case rel => exact ⟨k + 1, hlt, Nat.le_refl _, by rw [HRk.out, HS.out]; omega, (HRd.out.drew _).setI hlt (by omega), (HMv.out.drew _).set 1 _⟩
          case measure => omega
        | false =>
          cases e13 : ((s[k].toNat : Int) == 13) with
          | true =>
            have HS := Lib.hid (sk_ws HG.out (by unfold isWS; simp only [beq_iff_eq, beq_eq_false_iff_ne] at *; simp [*]))
            go_wp2_with fail
            go_quiet (fail)
            go_wp2_with fail
            go_quiet (fail)
            have W1 : IntKind.i64.wrap ((k : Int) + 1) = (k : Int) + 1 := IntWalk.i64_in _ (by omega)
            go_wp2
            go_roundg (s.size - (k + 1))
            case rel => exact ⟨k + 1, hlt, Nat.le_refl _, by rw [HRk.out, HS.out]; omega, (HRd.out.drew _).setI hlt (by omega), (HMv.out.drew _).set 1 _⟩
            case measure => omega
          | false =>
            cases e32 : ((s[k].toNat : Int) == 32) with
            | true =>
              have HS := Lib.hid (sk_ws HG.out (by unfold isWS; simp only [beq_iff_eq, beq_eq_false_iff_ne] at *; simp [*]))
              go_wp2_with fail
              go_quiet (fail)
              go_wp2_with fail
              go_quiet (fail)
              have W1 : IntKind.i64.wrap ((k : Int) + 1) = (k : Int) + 1 := IntWalk.i64_in _ (by omega)
              go_wp2
              go_roundg (s.size - (k + 1))
              case rel => exact ⟨k + 1, hlt, Nat.le_refl _, by rw [HRk.out, HS.out]; omega, (HRd.out.drew _).setI hlt (by omega), (HMv.out.drew _).set 1 _⟩
              case measure => omega
            | false =>
              cases e35 : ((s[k].toNat : Int) == 35) with
              | true =>
                have h35 : (s[k].toNat : Int) = 35 := by simpa using e35
                have HG35 : Hid ((bs s)[k]? = some 35) := Lib.hid (by rw [HG.out, h35])
                have HS := Lib.hid (sk_comment HG35.out)
                have hl1 := HS.out.2.1
                have hl2 := HS.out.2.2
                rw [bs_length] at hl2
                have HRest := fun (n : Nat) => Lib.hid (lexRest_quiet rp s k hk (by omega) (wr.drewN n) (HRd.out.drew n).at_.c0 (HRd.out.drew n).at_.c1)
                have HLine := fun (W : World) => Lib.hid (by have := lineLen_any (s.extract k s.size) W; rwa [bs_from] at this)
                clear HG h35
                generalize lineL ((bs s).drop k) = N at *
                have W1 : IntKind.i64.wrap ((k : Int) + (N : Int)) = (k : Int) + (N : Int) := IntWalk.i64_in _ (by omega)
                go_wp2_with fail
                go_quiet (fail)
                go_wp2_with fail
                go_quiet (fail)
                go_wp2_with fail
                go_region_with (first | (go_at_call 135; refine (HRest _).out.mono ?_; rintro e w1 ⟨rfl, nq, rfl⟩) | (go_at_call 143; refine (HLine _).out.mono ?_; rintro e w1 ⟨rfl, rfl⟩))
                all_goals
                  go_wp2
                  go_roundg (s.size - (k + N))
                  case rel => exact ⟨k + N, hl2, Nat.le_refl _, by rw [HRk.out, HS.out.1]; omega, (HRd.out.drew _).setI hl2 (by omega), (HMv.out.drew _).set 1 _⟩
                  case measure => omega
              | false =>
                have HS := Lib.hid (sk_stop HG.out (by unfold isWS; simp only [beq_eq_false_iff_ne] at *; simp [*]) (by simpa using e35))
                have HE : Hid (R = k) := Lib.hid (by rw [HRk.out, HS.out]; rfl)
                go_wp2_with fail
                go_quiet (fail)
                go_wp2_with fail
                go_quiet (fail)
                go_wp2
                first | go_end0 | refine bodyPost_ret (results_none rfl _ _ _) rfl ?_
                exact ⟨rfl, HE.out ▸ HRd.out.drew _, HMv.out.drew _⟩
    · obtain rfl : k = s.size := by omega
      have HE : Hid (R = s.size) := Lib.hid (by rw [HRk.out, List.drop_eq_nil_of_le (by rw [bs_length]; exact Nat.le_refl _)]; rfl)
      go_wp2_with fail
      go_quiet (fail)
      go_wp2
      go_end0
      exact ⟨rfl, HE.out ▸ HRd.out.drew _, HMv.out.drew _⟩
end Go.Proofs.YtbcoklbfebmpoaaGreatDoor

/-
  CONTRACTS OF newReader, (*reader).take.
-/

namespace Go.Proofs.YtbcoklbfebmpoaaGreatDoor
open Go.RowKit
open Utf Term Lex
set_option linter.unusedVariables false
set_option linter.unusedSimpArgs false

/-- What the package's and the library's variables hold, as far as it matters. -/
structure LexEnv (W : World) : Prop where
  len : ∃ m, W.cell? ⟨1, 0, none⟩ = some (.int .i64 m)
  err : ErrVar W
  marks : MarksAt W
theorem LexEnv.below {w u : World} (h : LexEnv w) (k : Below w.heap.size w u) : LexEnv u :=
  ⟨let ⟨m, hm⟩ := h.len; ⟨m, cell_kept_b k hm⟩, h.err.below k, h.marks.below k⟩

abbrev bound (K rp : Nat) : Value := .func (.func K) #[.pointer (some ⟨rp, 0, none⟩)] #[]
abbrev takersC (rp : Nat) : Array Value := #[bound 106 rp, bound 107 rp, bound 108 rp, bound 109 rp, bound 110 rp, bound 111 rp, bound 112 rp, bound 113 rp]
def takerK (k : Nat) : Nat := [106, 107, 108, 109, 110, 111, 112, 113].getD k 0
theorem below8 {p : Nat → Prop} (h : p 0 ∧ p 1 ∧ p 2 ∧ p 3 ∧ p 4 ∧ p 5 ∧ p 6 ∧ p 7) : ∀ k, k < 8 → p k := by
  obtain ⟨h0, h1, h2, h3, h4, h5, h6, h7⟩ := h
  intro k hk
  match k, hk with
  | 0, _ => exact h0
  | 1, _ => exact h1
  | 2, _ => exact h2
  | 3, _ => exact h3
  | 4, _ => exact h4
  | 5, _ => exact h5
  | 6, _ => exact h6
  | 7, _ => exact h7
  | n + 8, h => omega
theorem taker_cell (rp : Nat) : ∀ k, k < 8 → (takersC rp)[k]? = some (bound (takerK k) rp) := below8 ⟨rfl, rfl, rfl, rfl, rfl, rfl, rfl, rfl⟩
theorem taker_enters : ∀ k, k < 8 → ∀ args w, (callFunc (takerK k) args).run Tryz.prog w = .ok (.enter (takerK k) args) w :=
  below8 ⟨enters_of Tryz.func106 (by kernel_rfl) rfl, enters_of Tryz.func107 (by kernel_rfl) rfl, enters_of Tryz.func108 (by kernel_rfl) rfl, enters_of Tryz.func109 (by kernel_rfl) rfl,
    enters_of Tryz.func110 (by kernel_rfl) rfl, enters_of Tryz.func111 (by kernel_rfl) rfl, enters_of Tryz.func112 (by kernel_rfl) rfl, enters_of Tryz.func113 (by kernel_rfl) rfl⟩
theorem taker_any (hE : EscOK) (rp : Nat) (s : ByteArray) (a : Nat) (w : World) (h : RdAt w rp s a) (hv : LexEnv w) : ∀ k, k < 8 →
    Calls Tryz.prog (takerK k) #[.pointer (some ⟨rp, 0, none⟩)] w fun e w' => e = tookE ((takers ((bs s).drop a)).getD k .bad) ∧ Below w.heap.size w w' := by
  obtain ⟨m, hm⟩ := hv.len
  exact below8 ⟨lexMark_any rp s a w h hv.marks, name_any rp s a w h, word_any rp s a w h, variable_any rp s a w h, quoted_any2 hE rp s a w h hv.err, iri_any2 hE rp s a m w h hm hv.err, blank_any rp s a m w h hm, lang_any rp s a m w h hm⟩

/-- None of the first k took anything. -/
def NoneTook (L : List Took) (k : Nat) : Prop := ∀ j, j < k → L.getD j .bad = .no
theorem NoneTook.next {L : List Took} {k : Nat} (h : NoneTook L k) (hk : L.getD k .bad = .no) : NoneTook L (k + 1) := fun j hj => by
  by_cases e : j = k
  · rw [e]; exact hk
  · exact h j (by omega)
theorem firstT_at : ∀ (L : List Took) (k : Nat), (∀ j, j < k → L.getD j .bad = .no) → L.getD k .bad ≠ .no → firstT L = L.getD k .bad
  | [], k, _, _ => by simp [firstT]
  | x :: L, 0, _, h => by
    rw [List.getD_cons_zero] at h ⊢
    cases x with
    | no => exact absurd rfl h
    | bad => rfl
    | got y n => rfl
  | x :: L, k + 1, hn, h => by
    have h0 := hn 0 (by omega)
    rw [List.getD_cons_zero] at h0
    rw [h0, List.getD_cons_succ]
    rw [List.getD_cons_succ] at h
    exact firstT_at L k (fun j hj => by have := hn (j + 1) (by omega); rwa [List.getD_cons_succ] at this) h
theorem firstT_end {L : List Took} (h : NoneTook L L.length) : firstT L = .bad := by
  have e : L.getD L.length .bad = .bad := by simp
  rw [firstT_at L L.length h (by rw [e]; intro h; cases h), e]

set_option maxRecDepth 100000 in
set_option maxHeartbeats 2000000 in
theorem newReader_any (s : ByteArray) (w : World) (hs : s.size ≤ 1000000000) :
    Calls Tryz.prog 77 #[.string s] w fun e w' => e = .returned (.pointer (some ⟨w.heap.size, 0, none⟩)) ∧ Rd w' w.heap.size s 0 (.slice (some ⟨w.heap.size + 1, 0, none⟩) 8 8) ∧ BlockAt w' (w.heap.size + 1) (takersC w.heap.size) 175 ∧ Below w.heap.size w w' ∧ w'.heap.size = w.heap.size + 2 := by
  have hmf : ∀ (fn : Fn) (first cap : Array Value) (w : World), (Instr.makeFunc fn first cap).run Tryz.prog w = .ok (.func fn first cap) w := fun _ _ _ _ => rfl
  go_enter Tryz.func77, Tryz.ntmps77
  go_wp2
  go_ret
  refine ⟨rfl, ⟨(block_new w _ _).alloc _, Nat.zero_le _, hs⟩, ?_, below_next (below_lex _ _) (below_lex _ _), by simp⟩
  have h := block_new (w.alloc (.cells #[.string s, .int .i64 0, .slice (some ⟨w.heap.size + 1, 0, none⟩) 8 8] 142)) (takersC w.heap.size) 175
  rwa [World.size_alloc] at h

theorem BlockAt.other6 {W : World} {g b : Nat} {cs : Array Value} {t : TypeId} (h : BlockAt W g cs t) (hb : b ≠ g) (x0 x1 x2 x3 x4 x5 : Value) :
    BlockAt ((((((W.setCell ⟨b, 0, none⟩ x0).setCell ⟨b, 1, none⟩ x1).setCell ⟨b, 2, none⟩ x2).setCell ⟨b, 3, none⟩ x3).setCell ⟨b, 4, none⟩ x4).setCell ⟨b, 5, none⟩ x5) g cs t :=
  (((((h.other hb 0 _).other hb 1 _).other hb 2 _).other hb 3 _).other hb 4 _).other hb 5 _
theorem Moves.fresh {g : Nat} {u w : World} (h : Moves g u w) {b : Nat} (hb : u.heap.size ≤ b) (i : Nat) (x : Value) : Moves g u (w.setCell ⟨b, i, none⟩ x) :=
  ⟨h.os, h.tape, h.output, Nat.le_trans h.size (by simp [World.setCell]), fun k hk hn => (Below.heap_setCell _ _ _ _ (by show k ≠ b; omega)).trans (h.block k hk hn)⟩
theorem Moves.fresh6 {g : Nat} {u w : World} (h : Moves g u w) {b : Nat} (hb : u.heap.size ≤ b) (x0 x1 x2 x3 x4 x5 : Value) :
    Moves g u ((((((w.setCell ⟨b, 0, none⟩ x0).setCell ⟨b, 1, none⟩ x1).setCell ⟨b, 2, none⟩ x2).setCell ⟨b, 3, none⟩ x3).setCell ⟨b, 4, none⟩ x4).setCell ⟨b, 5, none⟩ x5) :=
  (((((h.fresh hb 0 _).fresh hb 1 _).fresh hb 2 _).fresh hb 3 _).fresh hb 4 _).fresh hb 5 _

/-- What take does. -/
def Taken (rp : Nat) (s : ByteArray) (a : Nat) (tv : Value) (w : World) (T : Took) (e : Ending) (w' : World) : Prop :=
  match T with
  | .got x n => e = .returned (symV { x with place := a }) ∧ Rd w' rp s (a + n) tv ∧ Moves rp w w'
  | _ => e = badE ∧ Below w.heap.size w w'

set_option maxRecDepth 100000 in
set_option maxHeartbeats 8000000 in
theorem take_any (hE : EscOK) (rp tb : Nat) (s : ByteArray) (a : Nat) (w : World) (h : Rd w rp s a (.slice (some ⟨tb, 0, none⟩) 8 8)) (ht : BlockAt w tb (takersC rp) 175) (hv : LexEnv w) :
    Calls Tryz.prog 116 #[.pointer (some ⟨rp, 0, none⟩)] w (Taken rp s a (.slice (some ⟨tb, 0, none⟩) 8 8) w (one ((bs s).drop a))) := by
  have hB0 := below_lex w (.cells zeroC 64)
  have hrp : rp < w.heap.size := (Array.getElem?_eq_some_iff.1 h.blk).1
  have c2 := (h.below hB0).blk.cell (j := 2) rfl
  have HB0 := Lib.hid hB0
  have HZ := Lib.hid (block_new w zeroC 64)
  have H := Lib.hid h
  have HT := Lib.hid ht
  have HV := Lib.hid hv
  have HE := Lib.hid hE
  obtain ⟨F, hF⟩ : ∃ F, F = Taken rp s a (.slice (some ⟨tb, 0, none⟩) 8 8) w (one ((bs s).drop a)) := ⟨_, rfl⟩
  rw [← hF]
  have HF := Lib.hid hF
  clear hB0 h ht hv hE hF
  go_enter Tryz.func116, Tryz.ntmps116
  go_wp2
  go_loopw [12] (fun i wr => ∃ k : Nat, k ≤ 8 ∧ i = .int .i64 k ∧ NoneTook (takers ((bs s).drop a)) k ∧ Below w.heap.size w wr ∧ BlockAt wr w.heap.size zeroC 64) (fun i _ => 8 - (intOf i).toNat)
  case atStart => exact ⟨0, by omega, rfl, fun j hj => by omega, HB0.out, HZ.out⟩
  case round =>
    obtain ⟨k, hk, rfl, hno, hB, hZ⟩ := hrel
    have HN := Lib.hid hno
    have HB := Lib.hid hB
    have HZk := Lib.hid hZ
    have hsz := hB.size
    clear hno hB hZ c2 HB0 HZ
    by_cases hlt : k < 8
    · have ck := (HT.out.kept HB.out).cell (taker_cell rp k hlt)
      have en := taker_enters k hlt
      have hC := taker_any HE.out rp s a wr (H.out.below HB.out).at_ (HV.out.below HB.out) k hlt
      cases hT : (takers ((bs s).drop a)).getD k .bad with
      | no =>
        rw [hT] at hC
        have hC' : Calls Tryz.prog (takerK k) #[.pointer (some ⟨rp, 0, none⟩)] wr fun e w' => e = .returned (.tuple #[.agg zeroC, .int .i64 0]) ∧ Below wr.heap.size wr w' := hC
        have HN2 := Lib.hid (HN.out.next hT)
        have HC := Lib.hid hC'
        clear hC hC' hT HN
        generalize takerK k = K at *
        go_wp2_with fail
        refine HC.out.mono ?_
        rintro e w1 ⟨rfl, hB1⟩
        have HB1 := Lib.hid (below_next HB.out hB1)
        have HZ1 := Lib.hid (HZk.out.kept hB1)
        clear hB1
        go_wp2
        go_roundw
        case rel => exact ⟨k + 1, by omega, by go_num, HN2.out, HB1.out.alloc HB1.out.size _, HZ1.out.alloc _⟩
        case measure => simp [intOf]; omega
      | bad =>
        rw [hT] at hC
        have hC' : Calls Tryz.prog (takerK k) #[.pointer (some ⟨rp, 0, none⟩)] wr fun e w' => e = badE ∧ Below wr.heap.size wr w' := hC
        have HX : Hid (∀ W, Below w.heap.size w W → F badE W) := Lib.hid (fun W hW => by
          rw [HF.out]
          unfold one
          rw [firstT_at (takers ((bs s).drop a)) k (fun j hj => HN.out j hj) (by rw [hT]; intro h; cases h), hT]
          exact ⟨rfl, hW⟩)
        have HC := Lib.hid hC'
        clear hC hC' hT HN HF
        generalize takerK k = K at *
        go_wp2_with fail
        refine HC.out.mono ?_
        rintro e w1 ⟨rfl, hB1⟩
        have HB1 := Lib.hid (below_next HB.out hB1)
        clear hB1
        go_wp2
        exact ⟨rfl, HX.out _ HB1.out⟩
      | got x n =>
        rw [hT] at hC
        have hpos := takers_pos (.got x n) (by rw [← hT, List.getD_eq_getElem?_getD, List.getElem?_eq_getElem (by exact hlt)]; exact List.getElem_mem _) rfl
        rw [List.length_drop, bs_length] at hpos
        have hle := H.out.le
        have hss := H.out.sz
        have hC' : Calls Tryz.prog (takerK k) #[.pointer (some ⟨rp, 0, none⟩)] wr fun e w' => e = .returned (.tuple #[.agg (symC x.kind (strOfNums x.text) x.tk (strOfNums x.tt) (strOfNums x.te) x.place), .int .i64 (n : Nat)]) ∧ Below wr.heap.size wr w' := hC
        have HX : Hid (∀ W, Rd W rp s (a + n) (.slice (some ⟨tb, 0, none⟩) 8 8) → Moves rp w W → F (.returned (.agg (symC x.kind (strOfNums x.text) x.tk (strOfNums x.tt) (strOfNums x.te) a))) W) := Lib.hid (fun W h1 h2 => by
          rw [HF.out]
          unfold one
          rw [firstT_at (takers ((bs s).drop a)) k (fun j hj => HN.out j hj) (by rw [hT]; intro h; cases h), hT]
          exact ⟨rfl, h1, h2⟩)
        have HC := Lib.hid hC'
        clear hC hC' hT HN HF
        generalize takerK k = K at *
        generalize (x.kind : Int) = x1 at *
        generalize strOfNums x.text = x2 at *
        generalize (x.tk : Int) = x3 at *
        generalize strOfNums x.tt = x4 at *
        generalize strOfNums x.te = x5 at *
        generalize (x.place : Int) = x6 at *
        have dn : decide ((0 : Int) < (n : Int)) = true := by simp; omega
        have W1 : IntKind.i64.wrap ((a : Int) + (n : Int)) = (a : Int) + (n : Int) := IntWalk.i64_in _ (by omega)
        go_wp2_with fail
        refine HC.out.mono ?_
        rintro e w1 ⟨rfl, hB1⟩
        have HB1 := Lib.hid (below_next HB.out hB1)
        have HZ1 := Lib.hid (HZk.out.kept hB1)
        have HR1 := Lib.hid (H.out.below HB1.out)
        have hs1 := HB1.out.size
        clear hB1
        have c1 : ∀ o, (w1.alloc o).cell? ⟨rp, 1, none⟩ = some (.int .i64 a) := fun o => (HR1.out.below (below_lex w1 o)).at_.c1
        have cf : ∀ o j, (w1.alloc o).frozen? ⟨rp, j, none⟩ = false := fun o j => (HR1.out.below (below_lex w1 o)).blk.free j
        have z0 : ∀ o, (w1.alloc o).cell? ⟨w.heap.size, 0, none⟩ = some (.int .i64 0) := fun o => (HZ1.out.alloc o).cell (j := 0) rfl
        have z1 : ∀ o, (w1.alloc o).cell? ⟨w.heap.size, 1, none⟩ = some (.string ⟨#[]⟩) := fun o => (HZ1.out.alloc o).cell (j := 1) rfl
        have z2 : ∀ o, (w1.alloc o).cell? ⟨w.heap.size, 2, none⟩ = some (.int .i64 0) := fun o => (HZ1.out.alloc o).cell (j := 2) rfl
        have z3 : ∀ o, (w1.alloc o).cell? ⟨w.heap.size, 3, none⟩ = some (.string ⟨#[]⟩) := fun o => (HZ1.out.alloc o).cell (j := 3) rfl
        have z4 : ∀ o, (w1.alloc o).cell? ⟨w.heap.size, 4, none⟩ = some (.string ⟨#[]⟩) := fun o => (HZ1.out.alloc o).cell (j := 4) rfl
        have z5 : ∀ o, (w1.alloc o).cell? ⟨w.heap.size, 5, none⟩ = some (.int .i64 0) := fun o => (HZ1.out.alloc o).cell (j := 5) rfl
        have zf : ∀ o j, (w1.alloc o).frozen? ⟨w.heap.size, j, none⟩ = false := fun o j => (HZ1.out.alloc o).free j
        have n3 : ¬ w.heap.size = rp := by omega
        have n4 : ¬ rp = w.heap.size := by omega
        have n1 : ¬ w1.heap.size = rp := by omega
        have n2 : ¬ rp = w1.heap.size := by omega
        have hfin : Rd ((w1.alloc (.cells #[.int .i64 x1, .string x2, .int .i64 x3, .string x4, .string x5, .int .i64 a] 64)).setCell ⟨rp, 1, none⟩ (.int .i64 ((a : Int) + (n : Int)))) rp s (a + n) (.slice (some ⟨tb, 0, none⟩) 8 8) := (HR1.out.below (below_lex w1 _)).setI (by omega) (by omega)
        have hfz : BlockAt ((w1.alloc (.cells #[.int .i64 x1, .string x2, .int .i64 x3, .string x4, .string x5, .int .i64 a] 64)).setCell ⟨rp, 1, none⟩ (.int .i64 ((a : Int) + (n : Int)))) w.heap.size zeroC 64 := (HZ1.out.alloc _).other n4 _ _
        have hfm : Moves rp w ((w1.alloc (.cells #[.int .i64 x1, .string x2, .int .i64 x3, .string x4, .string x5, .int .i64 a] 64)).setCell ⟨rp, 1, none⟩ (.int .i64 ((a : Int) + (n : Int)))) := (Moves.of_below (HB1.out.alloc hs1 _)).set 1 _
        have HFin := Lib.hid hfin
        have HFz := Lib.hid hfz
        have HFm := Lib.hid hfm
        clear hfin hfz hfm
        go_wp2
        refine bodyPost_ret (results_cell_row rfl _ _ w.heap.size 64 _ (0, 0) _ rfl (HFz.out.set6 _ _ _ _ _ _) Tryz.underlying64 rfl (by kernel_rfl)) rfl (HX.out _ ?_ ?_)
        · exact ⟨HFin.out.blk.other6 n3 _ _ _ _ _ _, HFin.out.le, HFin.out.sz⟩
        · exact HFm.out.fresh6 (Nat.le_refl _) _ _ _ _ _ _
    · obtain rfl : k = 8 := by omega
      have HX : Hid (∀ W, Below w.heap.size w W → F badE W) := Lib.hid (fun W hW => by
        rw [HF.out]
        unfold one
        have : firstT (takers ((bs s).drop a)) = .bad := firstT_end HN.out
        rw [this]
        exact ⟨rfl, hW⟩)
      go_wp2
      exact ⟨rfl, HX.out _ HB.out⟩
end Go.Proofs.YtbcoklbfebmpoaaGreatDoor

/-
  PLAIN MATHEMATICS: one symbol, in the order in which the reference goes about it.
-/

namespace Go.Proofs.YtbcoklbfebmpoaaGreatDoor
open Go.RowKit
open Utf Term Lex

/-- A word, as the reference goes about it: a letter first. -/
def wordE (l : List Int) : Nat := if letter (l.headD 0) = true then spanL letterDigit l else 0

theorem letter_ld {c : Int} (h : letter c = true) : letterDigit c = true := by unfold letterDigit; rw [h]; rfl
theorem span_zero {p : Int → Bool} {c : Int} {r : List Int} (h : p c = false) : spanL p (c :: r) = 0 := by
  unfold spanL
  rw [List.takeWhile_cons, if_neg (by rw [h]; decide)]
  rfl
theorem span_succ {p : Int → Bool} {c : Int} {r : List Int} (h : p c = true) : spanL p (c :: r) = spanL p r + 1 := by
  unfold spanL
  rw [List.takeWhile_cons, if_pos h]
  rfl
theorem wordE_yes {c : Int} {r : List Int} (h : letter c = true) : wordE (c :: r) = spanL letterDigit (c :: r) := by
  unfold wordE
  rw [if_pos (by exact h)]
theorem wordE_no {c : Int} {r : List Int} (h : letter c = false) : wordE (c :: r) = 0 := by
  unfold wordE
  rw [if_neg (by rw [List.headD_cons, h]; decide)]
end Go.Proofs.YtbcoklbfebmpoaaGreatDoor

