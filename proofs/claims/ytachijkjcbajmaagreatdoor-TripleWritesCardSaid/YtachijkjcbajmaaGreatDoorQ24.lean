/-
  WHAT THE PROOF STANDS ON, a part of it: LexDenoted.
-/
import Derived.Test.YtachijkjcbajmaaGreatDoorQ23
import Derived.Test.YtachijkjcbajmaaGreatDoorQ1
/-
  THE CONTRACT OF denoted, given escape's.
-/

namespace Go.Proofs.YtachijkjcbajmaaGreatDoor
open Go.RowKit
open Utf Term Lex
set_option linter.unusedVariables false
set_option linter.unusedSimpArgs false

/-- The library's variable ErrSyntax holds some error, or none. -/
def ErrVar (W : World) : Prop := ∃ ev, W.cell? ⟨2, 0, none⟩ = some ev ∧ (ev = .nilIface ∨ ∃ te pe, ev = .iface te pe)
theorem ErrVar.below {w u : World} (h : ErrVar w) (k : Below w.heap.size w u) : ErrVar u := by
  obtain ⟨ev, h1, h2⟩ := h
  exact ⟨ev, cell_kept_b k h1, h2⟩
def sigS : Bool → ByteArray
  | true => ⟨#[116, 98, 110, 114, 102, 34, 39, 92]⟩
  | false => ⟨#[]⟩
/-- What escape answers. -/
def Escaped (all : Bool) (l : List Int) (w : World) (e : Ending) (w' : World) : Prop :=
  Below w.heap.size w w' ∧
  match escL all l with
  | none => e = badE
  | some (b, k) => ∃ g cap, e = .returned (.tuple #[.slice (some ⟨g, 0, none⟩) b.length cap, .int .i64 (k : Nat)]) ∧ (∀ (j : Nat) (u : Value), (b.map (Value.int .u8))[j]? = some u → w'.cell? ((⟨g, 0, none⟩ : Addr).add j) = some u)
/-- The contract of escape. -/
def EscOK : Prop := ∀ (all : Bool) (q : ByteArray) (l : List Int) (W : World), bs q = 92 :: l → q.size ≤ 1000000000 → ErrVar W → Calls Tryz.prog 122 #[.string q, .string (sigS all)] W (Escaped all l W)

theorem escL_len {all : Bool} {l b : List Int} {k : Nat} (h : escL all l = some (b, k)) : 0 < b.length ∧ b.length ≤ k := by
  cases l with
  | nil => cases h
  | cons c r =>
    have hn : ∀ n, 4 ≤ n → numL n r = some (b, k) → 0 < b.length ∧ b.length ≤ k := by
      intro n hn h
      unfold numL at h
      split at h
      · simp only [Option.some.injEq, Prod.mk.injEq] at h
        have := enc_len (hexV (r.take n))
        have h2 := enc_ne (hexV (r.take n))
        rw [h.1] at this h2
        have := List.length_pos_iff.2 h2
        omega
      · cases h
    rw [escL] at h
    split at h
    · exact hn 4 (by omega) h
    · split at h
      · exact hn 8 (by omega) h
      · split at h
        · cases hs : shortE c with
          | none => rw [hs] at h; cases h
          | some y =>
            rw [hs] at h
            simp only [Option.map_some, Option.some.injEq, Prod.mk.injEq] at h
            obtain ⟨rfl, rfl⟩ := h
            simp
        · cases h

def denE : Option (List Int × Nat) → Ending
  | none => badE
  | some (t, n) => .returned (.tuple #[.string (strOfNums t), .int .i64 ((1 + n : Nat) : Int)])

theorem den_at {nl all : Bool} {stop c : Int} {l : List Int} {k : Nat} (h : l[k]? = some c) : den nl all stop (l.drop k) =
    if c = stop then some ([], 1)
    else if nl = true ∧ (c = 10 ∨ c = 13) then none
    else if c = 92 then
      match escL all (l.drop (k + 1)) with
      | none => none
      | some (b, m) => (den nl all stop (l.drop (k + m))).map fun x => (b ++ x.1, m + x.2)
    else (den nl all stop (l.drop (k + 1))).map fun x => (c :: x.1, 1 + x.2) := by
  have hk := (List.getElem?_eq_some_iff.1 h).1
  rw [List.drop_eq_getElem_cons hk, (List.getElem?_eq_some_iff.1 h).2, den_cons]
  cases he : escL all (l.drop (k + 1)) with
  | none => rfl
  | some x =>
    obtain ⟨b, m⟩ := x
    have := escL_pos he
    simp only
    rw [List.drop_drop, show k + 1 + (m - 1) = k + m by omega]

/-- What has been read so far, and what comes. -/
def DenSo (D : Option (List Int × Nat)) (all : Bool) (stop : Int) (l : List Int) (acc : List Int) (k : Nat) : Prop :=
  D = (den true all stop (l.drop k)).map fun x => (acc ++ x.1, k - 1 + x.2)
theorem DenSo.plain {D : Option (List Int × Nat)} {all : Bool} {stop c : Int} {l acc : List Int} {k : Nat} (h : DenSo D all stop l acc k) (hk : 1 ≤ k) (hc : l[k]? = some c) (h1 : c ≠ stop) (h2 : c ≠ 10) (h3 : c ≠ 13) (h4 : c ≠ 92) : DenSo D all stop l (acc ++ [c]) (k + 1) := by
  unfold DenSo at *
  rw [h, den_at hc, if_neg h1, if_neg (by intro h; exact h.2.elim h2 h3), if_neg h4, Option.map_map]
  congr 1
  funext x
  simp only [Function.comp, List.append_assoc, List.cons_append, List.nil_append, Prod.mk.injEq, true_and]
  omega
theorem DenSo.esc {D : Option (List Int × Nat)} {all : Bool} {stop : Int} {l acc b : List Int} {k m : Nat} (h : DenSo D all stop l acc k) (hk : 1 ≤ k) (hc : l[k]? = some 92) (h1 : (92 : Int) ≠ stop) (he : escL all (l.drop (k + 1)) = some (b, m)) : DenSo D all stop l (acc ++ b) (k + m) := by
  unfold DenSo at *
  rw [h, den_at hc, if_neg h1, if_neg (by intro h; exact h.2.elim (by decide) (by decide)), if_pos rfl, he, Option.map_map]
  congr 1
  funext x
  simp only [Function.comp, List.append_assoc, Prod.mk.injEq, true_and]
  omega
theorem DenSo.noEsc {D : Option (List Int × Nat)} {all : Bool} {stop : Int} {l acc : List Int} {k : Nat} (h : DenSo D all stop l acc k) (hc : l[k]? = some 92) (h1 : (92 : Int) ≠ stop) (he : escL all (l.drop (k + 1)) = none) : D = none := by
  unfold DenSo at *
  rw [h, den_at hc, if_neg h1, if_neg (by intro h; exact h.2.elim (by decide) (by decide)), if_pos rfl, he]
  rfl
theorem DenSo.line {D : Option (List Int × Nat)} {all : Bool} {stop c : Int} {l acc : List Int} {k : Nat} (h : DenSo D all stop l acc k) (hc : l[k]? = some c) (h1 : c ≠ stop) (h2 : c = 10 ∨ c = 13) : D = none := by
  unfold DenSo at *
  rw [h, den_at hc, if_neg h1, if_pos ⟨rfl, h2⟩]
  rfl
theorem DenSo.stop {D : Option (List Int × Nat)} {all : Bool} {stop : Int} {l acc : List Int} {k : Nat} (h : DenSo D all stop l acc k) (hk : 1 ≤ k) (hc : l[k]? = some stop) : D = some (acc, k) := by
  unfold DenSo at *
  rw [h, den_at hc, if_pos rfl]
  simp only [Option.map_some, List.append_nil, Option.some.injEq, Prod.mk.injEq, true_and]
  omega
theorem DenSo.end_ {D : Option (List Int × Nat)} {all : Bool} {stop : Int} {l acc : List Int} {k : Nat} (h : DenSo D all stop l acc k) (hk : l.length ≤ k) : D = none := by
  unfold DenSo at *
  rw [h, List.drop_eq_nil_of_le hk]
  rfl
theorem pre_one (x : Value) : ∀ (j : Nat) (u : Value), [x][j]? = some u → #[x][j]? = some u := by
  intro j u h
  match j, h with
  | 0, h => exact h
  | j + 1, h => simp at h

theorem own_kept {w w1 w2 : World} {e : TypeId} {k n : Nat} {v : Value} {xs : List Value} (h : w1.ownsRow w.heap.size e k v n xs) (hB : Below w1.heap.size w1 w2) : w2.ownsRow w.heap.size e k v n xs :=
  h.kept (row := none) ⟨hB.os, hB.tape, hB.output, hB.size, fun k hk _ => hB.block k hk⟩ (by cases hv : v.ownBlock <;> simp)

set_option maxRecDepth 100000 in
set_option maxHeartbeats 8000000 in
theorem denoted_any (hE : EscOK) (r : ByteArray) (stop : Int) (all : Bool) (h1 : 1 ≤ r.size) (hs : r.size ≤ 1000000000) (hst : stop ≠ 92) (w : World) (hv : ErrVar w) :
    Calls Tryz.prog 103 #[.string r, .int .u8 stop, .string (sigS all)] w fun e w' => e = denE (den true all stop ((bs r).drop 1)) ∧ Below w.heap.size w w' := by
  obtain ⟨i0, hi, hz0, hz1, hz2⟩ := info_parts info_u8
  obtain ⟨D, hD⟩ : ∃ D, D = den true all stop ((bs r).drop 1) := ⟨_, rfl⟩
  have HD : Hid (DenSo D all stop (bs r) [] 1) := Lib.hid (by
    unfold DenSo
    rw [hD]
    cases den true all stop ((bs r).drop 1) <;> simp)
  rw [← hD]
  clear hD
  obtain ⟨E, hEq⟩ : ∃ E, E = denE D := ⟨_, rfl⟩
  rw [← hEq]
  have HEq := Lib.hid hEq
  have HV := Lib.hid hv
  have HE := Lib.hid hE
  clear hEq hv hE
  generalize hsg : sigS all = sg at *
  have HS := Lib.hid hsg
  clear hsg
  go_enter Tryz.func103, Tryz.ntmps103
  go_wp2
  go_loopw [8, 9] (fun v i wr => ∃ (k : Nat) (acc : List Int), 1 ≤ k ∧ k ≤ r.size ∧ i = .int .i64 k ∧ acc.length ≤ k ∧ DenSo D all stop (bs r) acc k ∧ wr.ownsRow w.heap.size 5 1 v acc.length (acc.map (Value.int .u8)) ∧ Below w.heap.size w wr) (fun _ i _ => r.size - (intOf i).toNat)
  case atStart => exact ⟨1, [], Nat.le_refl _, h1, rfl, by simp, HD.out, World.ownsRow_nil _ _ _ _, Below.refl _ _⟩
  case round =>
    obtain ⟨k, acc, hk1, hk, rfl, hal, hso, hown, hB⟩ := hrel
    have HSo := Lib.hid hso
    have HO := Lib.hid hown
    have HB := Lib.hid hB
    have hwr := hB.size
    clear hso hown hB HD
    by_cases hlt : k < r.size
    · have HG := Lib.hid (bs_get r k hlt)
      by_cases c1 : (r[k].toNat : Int) = stop
      · have HF : Hid (E = .returned (.tuple #[.string (strOfNums acc), .int .i64 ((1 + k : Nat) : Int)])) := Lib.hid (by
          rw [HEq.out, HSo.out.stop hk1 (by rw [HG.out, c1])]; rfl)
        have e1 : ((r[k].toNat : Int) == stop) = true := by simpa using c1
        have ek : (((1 + k : Nat) : Int)) = (k : Int) + 1 := by omega
        rw [ek] at HF
        clear HSo HG c1 ek HEq
        rcases owns_forms HO.out with ⟨rfl, hx⟩ | ⟨g, cp, rfl, hg, hx, hcell⟩
        · have hs := nil_string wr
          rw [hx] at HF
          clear hx HO hwr
          go_wp2
          go_ret2
          exact ⟨HF.out.symm, HB.out⟩
        · have hs := owns_string (cap := cp) hx hcell hg (Below.refl _ wr)
          clear hx HO hcell hg
          go_wp2
          go_ret2
          exact ⟨HF.out.symm, HB.out⟩
      · have e1 : ((r[k].toNat : Int) == stop) = false := by simpa using c1
        by_cases c2 : (r[k].toNat : Int) = 10
        · have HF : Hid (E = badE) := Lib.hid (by rw [HEq.out, HSo.out.line HG.out c1 (.inl c2)]; rfl)
          have e2 : ((r[k].toNat : Int) == 10) = true := by simpa using c2
          clear HSo HG c1 c2 HEq HO
          go_wp2
          exact ⟨rfl, HF.out.symm, HB.out⟩
        · have e2 : ((r[k].toNat : Int) == 10) = false := by simpa using c2
          by_cases c3 : (r[k].toNat : Int) = 13
          · have HF : Hid (E = badE) := Lib.hid (by rw [HEq.out, HSo.out.line HG.out c1 (.inr c3)]; rfl)
            have e3 : ((r[k].toNat : Int) == 13) = true := by simpa using c3
            clear HSo HG c1 c2 c3 HEq HO
            go_wp2
            exact ⟨rfl, HF.out.symm, HB.out⟩
          · have e3 : ((r[k].toNat : Int) == 13) = false := by simpa using c3
            by_cases c4 : (r[k].toNat : Int) = 92
            · have e4 : ((r[k].toNat : Int) == 92) = true := by simpa using c4
              have hbq : bs (r.extract k r.size) = 92 :: (bs r).drop (k + 1) := by
                rw [bs_from, List.drop_eq_getElem_cons (by rw [bs_length]; exact hlt)]
                congr 1
                have := List.getElem?_eq_getElem (l := bs r) (i := k) (by rw [bs_length]; exact hlt)
                rw [HG.out] at this
                rw [← Option.some.inj this, c4]
              have HC := HE.out all (r.extract k r.size) _ wr hbq (by simp; omega) (HV.out.below (HB.out.mono (Nat.le_refl _)))
              rw [HS.out] at HC
              have hG92 : (bs r)[k]? = some 92 := by rw [HG.out, c4]
              cases hesc : escL all ((bs r).drop (k + 1)) with
              | none =>
                have HF : Hid (E = badE) := Lib.hid (by rw [HEq.out, HSo.out.noEsc hG92 (Ne.symm hst) hesc]; rfl)
                unfold Escaped at HC
                rw [hesc] at HC
                have HC2 := Lib.hid HC
                clear HSo HG c1 c2 c3 c4 HEq HO HC hesc hbq hG92
                go_wp2_with (go_at_call 122; refine HC2.out.mono ?_; rintro e w1 ⟨hB1, rfl⟩)
                exact ⟨rfl, HF.out.symm, HB.out.trans (hB1.mono hwr)⟩
              | some x =>
                obtain ⟨b, m⟩ := x
                have HN := Lib.hid (HSo.out.esc hk1 hG92 (Ne.symm hst) hesc)
                have hpos := escL_pos hesc
                have hlen := escL_len hesc
                rw [List.length_drop, bs_length] at hpos
                unfold Escaped at HC
                rw [hesc] at HC
                have HC2 := Lib.hid HC
                clear HSo HG c1 c2 c3 c4 HC hesc hbq hG92
                go_wp2_with fail
                refine HC2.out.mono ?_
                rintro e w1 ⟨hB1, g, cap, rfl, hcells⟩
                have HO1 := Lib.hid (own_kept HO.out hB1)
                have HB1 := Lib.hid (HB.out.trans (hB1.mono hwr))
                have hw1 := hB1.size
                have HX := Lib.hid hcells
                have W1 : IntKind.i64.wrap ((k : Int) + (m : Int)) = (k : Int) + (m : Int) := IntWalk.i64_in _ (by omega)
                clear hcells hB1 HO
                go_wp2_with (at_builtin; refine wpList_append_own _ rfl _ _ 88 rfl w.heap.size 5 i0 (.int .u8 0) 1 1 Tryz.underlying88 hi hz0 hz1 hz2 rfl (by decide) _ _ _ rfl HO1.out ⟨g, 0, none⟩ b.length cap (b.map (Value.int .u8)) rfl (by simp) HX.out (by intro u hu; obtain ⟨c, _, rfl⟩ := List.mem_map.1 hu; rfl) (by unfold maxLen; omega) (by omega) (by omega) ?_; intro v' w2 hown' hgrow _)
                have HB2 := Lib.hid (HB1.out.grown hgrow (by omega) (fun k e => (HO1.out.lt k e).1))
                have HO2 := Lib.hid hown'
                clear hgrow hown'
                go_roundw
                case rel => exact ⟨k + m, acc ++ b, by omega, by omega, by go_num, by rw [List.length_append]; omega, HN.out, by rw [List.length_append, List.map_append]; exact HO2.out, HB2.out⟩
                case measure => simp [intOf]; omega
            · have e4 : ((r[k].toNat : Int) == 92) = false := by simpa using c4
              have HN := Lib.hid (HSo.out.plain hk1 HG.out c1 c2 c3 c4)
              clear HSo HG c1 c2 c3 c4
              go_wp2_with (at_builtin; refine wpList_append_own _ rfl _ _ 88 rfl w.heap.size 5 i0 (.int .u8 0) 1 1 Tryz.underlying88 hi hz0 hz1 hz2 rfl (by decide) _ _ _ rfl (HO.out.alloc _) ⟨wr.heap.size, 0, none⟩ 1 1 [.int .u8 (r[k].toNat : Int)] rfl rfl (cells_new _ _ _ _ (pre_one _)) (by intro u hu; simp at hu; subst hu; rfl) (by unfold maxLen; omega) (by omega) (by simp; omega) ?_; intro v' w1 hown' hgrow _)
              have HB2 := Lib.hid ((HB.out.alloc hwr _).grown hgrow (by simp; omega) (fun k e => (HO.out.lt k e).1))
              have HO2 := Lib.hid hown'
              clear hgrow hown'
              go_roundw
              case rel => exact ⟨k + 1, acc ++ [(r[k].toNat : Int)], by omega, by omega, by go_num, by rw [List.length_append, List.length_singleton]; omega, HN.out, by rw [List.length_append, List.map_append]; exact HO2.out, HB2.out⟩
              case measure => simp [intOf]; omega
    · have hkk : (bs r).length ≤ k := by rw [bs_length]; omega
      have HF : Hid (E = badE) := Lib.hid (by rw [HEq.out, HSo.out.end_ hkk]; rfl)
      have d0 : decide (k < r.size) = false := by simp; omega
      clear HSo HEq hkk HO
      go_wp2
      exact ⟨rfl, HF.out.symm, HB.out⟩
end Go.Proofs.YtachijkjcbajmaaGreatDoor
