/-
  WHAT THE PROOF STANDS ON, a part of it: ReadMath, GoodSyms, NtMath, ReadAny, ReadWhole, ReadRead, NtTake, NtStm.
-/
import Derived.Test.YtachijkjcbajmaaGreatDoorQ38
import Derived.Test.YtachijkjcbajmaaGreatDoorQ16
import Derived.Test.YtachijkjcbajmaaGreatDoorQ30
import Derived.Test.YtachijkjcbajmaaGreatDoorQ1
import Derived.Deep.DeepCutAuto
/-
  PLAIN MATHEMATICS: which term symbols begin with.
-/

namespace Go.Proofs.YtachijkjcbajmaaGreatDoor
open Go.RowKit
open Utf Term Lex

abbrev S (l : List Int) : ByteArray := strOfNums l
abbrev noneB : ByteArray := ⟨#[]⟩
def typeMarkL : List Int := [94, 94]

/-- A symbol as the reader of symbols hands it out, of a text of at most N bytes. -/
structure GoodS (N : Nat) (x : Sym) : Prop where
  bt : ∀ c ∈ x.text, IsByte c
  btt : ∀ c ∈ x.tt, IsByte c
  bte : ∀ c ∈ x.te, IsByte c
  lt : x.text.length ≤ N
  ltt : x.tt.length ≤ N
  lte : x.te.length ≤ N
  pl : x.place ≤ N
  iri : x.kind = 1 → x.tk = 1 ∧ x.te = [] ∧ mayS 1 (S x.tt) noneB = true
  blank : x.kind = 2 → x.tk = 2 ∧ x.te = [] ∧ mayS 2 (S x.tt) noneB = true
  lang : x.kind = 4 → isTagS (S x.text) = true
  name : x.kind = 7 → (58 : Int) ∈ x.text

/-- What stands in front of the first ':', and behind it. -/
def wordN (l : List Int) : List Int := l.takeWhile (fun c => c != 58)
def localN (l : List Int) : List Int := (l.dropWhile (fun c => c != 58)).drop 1

/-- The IRI or the Blank that a symbol is. -/
def namedS (P : ByteArray → Option ByteArray) (x : Sym) : Option TermD :=
  if x.kind = 1 then some (1, S x.tt, noneB)
  else if x.kind = 2 then some (2, S x.tt, noneB)
  else if x.kind = 7 then
    match P (S (wordN x.text)) with
    | none => none
    | some b => if mayS 1 (b ++ S (localN x.text)) noneB = true then some (1, b ++ S (localN x.text), noneB) else none
  else none

theorem index_58 : ∀ u : List UInt8, (58 : UInt8) ∈ u → Lib.index u [58] = ((u.takeWhile (fun c => c != 58)).length : Int)
  | [], h => by cases h
  | b :: u, h => by
    rw [Lib.index_one, Lib.indexByte]
    by_cases hb : b = 58
    · subst hb
      rw [if_pos (by decide), List.takeWhile_cons, if_neg (by decide)]
      rfl
    · have hm : (58 : UInt8) ∈ u := by
        rcases List.mem_cons.1 h with e | e
        · exact absurd e.symm hb
        · exact e
      have ih := index_58 u hm
      rw [Lib.index_one] at ih
      rw [if_neg (by simpa using hb), ih, if_neg (by simp), List.takeWhile_cons, if_pos (by simpa using hb), List.length_cons]
      omega
theorem cut_58 (u : List UInt8) (h : (58 : UInt8) ∈ u) : Lib.cut u [58] = (u.takeWhile (fun c => c != 58), (u.dropWhile (fun c => c != 58)).drop 1, true) := by
  have hi := index_58 u h
  unfold Lib.cut
  rw [hi, if_pos (by omega), Int.toNat_natCast]
  have e : u.takeWhile (fun c => c != 58) ++ u.dropWhile (fun c => c != 58) = u := List.takeWhile_append_dropWhile
  have e1 : u.take (u.takeWhile (fun c => c != 58)).length = u.takeWhile (fun c => c != 58) := by
    conv => lhs; arg 2; rw [← e]
    exact List.take_left
  have e2 : u.drop ((u.takeWhile (fun c => c != 58)).length + [(58 : UInt8)].length) = (u.dropWhile (fun c => c != 58)).drop 1 := by
    conv => lhs; arg 2; rw [← e]
    rw [← List.drop_drop, List.drop_left]
    rfl
  rw [e1, e2]
theorem to58 (c : UInt8) : (((c.toNat : Int)) != 58) = (c != 58) := by
  rw [Bool.eq_iff_iff, bne_iff_ne, bne_iff_ne]
  refine not_congr ⟨fun h => ?_, fun h => by rw [h]; rfl⟩
  apply UInt8.toNat.inj
  show c.toNat = 58
  omega
theorem takeW_map (f : UInt8 → Int) (p : Int → Bool) (q : UInt8 → Bool) (h : ∀ c, p (f c) = q c) : ∀ u : List UInt8, (u.map f).takeWhile p = (u.takeWhile q).map f
  | [] => rfl
  | b :: u => by
    rw [List.map_cons, List.takeWhile_cons, List.takeWhile_cons, h b]
    split
    · rw [List.map_cons, takeW_map f p q h u]
    · rfl
theorem dropW_map (f : UInt8 → Int) (p : Int → Bool) (q : UInt8 → Bool) (h : ∀ c, p (f c) = q c) : ∀ u : List UInt8, (u.map f).dropWhile p = (u.dropWhile q).map f
  | [] => rfl
  | b :: u => by
    rw [List.map_cons, List.dropWhile_cons, List.dropWhile_cons, h b]
    split
    · rw [dropW_map f p q h u]
    · rfl
/-- strings.Cut at ':' . -/
theorem cutS (s : ByteArray) (h : (58 : Int) ∈ bs s) : (⟨(Lib.cut s.data.toList [58]).1.toArray⟩ : ByteArray) = S (wordN (bs s)) ∧ (⟨(Lib.cut s.data.toList [58]).2.1.toArray⟩ : ByteArray) = S (localN (bs s)) ∧ (Lib.cut s.data.toList [58]).2.2 = true := by
  have hm : (58 : UInt8) ∈ s.data.toList := by
    unfold bs at h
    obtain ⟨c, hc, e⟩ := List.mem_map.1 h
    have : c = 58 := UInt8.toNat.inj (by show c.toNat = 58; omega)
    rwa [this] at hc
  rw [cut_58 _ hm]
  refine ⟨?_, ?_, rfl⟩
  · refine (str_of ?_).symm
    unfold bs wordN
    rw [takeW_map _ _ _ to58]
  · refine (str_of ?_).symm
    unfold bs localN
    rw [dropW_map _ _ _ to58, List.map_drop]
theorem localN_len (l : List Int) : (localN l).length ≤ l.length := by
  unfold localN
  rw [List.length_drop]
  have := List.Sublist.length_le (List.dropWhile_sublist (l := l) (fun c => c != 58))
  omega

def xsdS : ByteArray := ⟨#[104, 116, 116, 112, 58, 47, 47, 119, 119, 119, 46, 119, 51, 46, 111, 114, 103, 47, 50, 48, 48, 49, 47, 88, 77, 76, 83, 99, 104, 101, 109, 97, 35, 115, 116, 114, 105, 110, 103]⟩

def okT (t : TermD) : Option TermD := if mayD t = true then some t else none
/-- A text and a type. -/
def typedR (tt : ByteArray) (r : Option TermD) : Option TermD :=
  match r with
  | none => none
  | some u => if u.1 = 1 then (if u.2.1 = xsdS then okT (3, tt, noneB) else okT (5, tt, u.2.1)) else none
/-- The term that all of some symbols are. -/
def wholeS (P : ByteArray → Option ByteArray) : List Sym → Option TermD
  | [x] => if x.kind = 3 then okT (3, S x.text, noneB) else namedS P x
  | [x, y] => if x.kind = 3 ∧ y.kind = 4 then okT (4, S x.text, S y.text) else none
  | [x, y, z] =>
    if x.kind = 3 ∧ y.kind = 8 ∧ y.text = typeMarkL then typedR (S x.text) (namedS P z) else none
  | _ => none
def tryS (P : ByteArray → Option ByteArray) (L : List Sym) (n : Nat) : Option (TermD × Nat) := if n ≤ L.length then (wholeS P (L.take n)).map (fun t => (t, n)) else none
/-- The longest term that symbols begin with. -/
def readS (P : ByteArray → Option ByteArray) (L : List Sym) : Option (TermD × Nat) :=
  match tryS P L 3 with
  | some r => some r
  | none => match tryS P L 2 with
    | some r => some r
    | none => tryS P L 1
theorem readS_pos {P : ByteArray → Option ByteArray} {L : List Sym} {t : TermD} {n : Nat} (h : readS P L = some (t, n)) : 1 ≤ n ∧ n ≤ 3 ∧ n ≤ L.length := by
  have ht : ∀ k, tryS P L k = some (t, n) → n = k ∧ k ≤ L.length := by
    intro k hk
    unfold tryS at hk
    split at hk
    · rename_i hle
      cases hw : wholeS P (L.take k) with
      | none => rw [hw] at hk; cases hk
      | some u =>
        rw [hw] at hk
        simp only [Option.map_some, Option.some.injEq, Prod.mk.injEq] at hk
        exact ⟨hk.2.symm, hle⟩
    · cases hk
  unfold readS at h
  cases h3 : tryS P L 3 with
  | some r => rw [h3] at h; simp only [Option.some.injEq] at h; subst h; have := ht 3 h3; omega
  | none =>
    rw [h3] at h
    simp only at h
    cases h2 : tryS P L 2 with
    | some r => rw [h2] at h; simp only [Option.some.injEq] at h; subst h; have := ht 2 h2; omega
    | none => rw [h2] at h; simp only at h; have := ht 1 h; omega
end Go.Proofs.YtachijkjcbajmaaGreatDoor
/-
  PLAIN MATHEMATICS: the symbols of a text are good ones.
-/

namespace Go.Proofs.YtachijkjcbajmaaGreatDoor
open Go.RowKit
open Utf Term Lex

def ByteL (l : List Int) : Prop := ∀ c ∈ l, IsByte c
theorem ByteL.drop {l : List Int} (h : ByteL l) (n : Nat) : ByteL (l.drop n) := fun c hc => h c (List.mem_of_mem_drop hc)
theorem ByteL.take {l : List Int} (h : ByteL l) (n : Nat) : ByteL (l.take n) := fun c hc => h c (List.mem_of_mem_take hc)
theorem esc_good {all : Bool} {l b : List Int} {k : Nat} (h : escL all l = some (b, k)) : ByteL b ∧ b.length ≤ k := by
  have hn : ∀ q r, numL q r = some (b, k) → ByteL b ∧ b.length ≤ k := by
    intro q r hq
    unfold numL at hq
    split at hq
    · rename_i h1
      simp only [Option.some.injEq, Prod.mk.injEq] at hq
      obtain ⟨rfl, rfl⟩ := hq
      have hlen := enc_len (hexV (r.take q))
      refine ⟨enc_bytes h1.2.2, ?_⟩
      by_cases hq0 : q = 0
      · subst hq0
        have : hexV (r.take 0) = 0 := by simp [hexV]
        rw [this]
        decide
      · by_cases hq1 : q = 1
        · subst hq1
          have hr : hexV (r.take 1) ≤ 15 := by
            unfold hexV
            cases r with
            | nil => decide
            | cons c r =>
              simp only [List.take_succ_cons, List.take_zero, List.foldl_cons, List.foldl_nil]
              unfold hexD
              repeat' split
              all_goals omega
          have : enc (hexV (r.take 1)) = [hexV (r.take 1)] := by unfold enc; rw [if_pos (by omega)]
          rw [this]
          simp
        · omega
    · cases hq
  cases l with
  | nil => cases h
  | cons c r =>
    rw [escL] at h
    split at h
    · exact hn _ _ h
    · split at h
      · exact hn _ _ h
      · split at h
        · cases hs : shortE c with
          | none => rw [hs] at h; cases h
          | some y =>
            rw [hs] at h
            simp only [Option.map_some, Option.some.injEq, Prod.mk.injEq] at h
            obtain ⟨rfl, rfl⟩ := h
            refine ⟨?_, by simp⟩
            intro d hd
            rw [List.mem_singleton.1 hd]
            unfold shortE at hs
            repeat' (split at hs)
            all_goals first | (cases hs; exact ⟨by decide, by decide⟩) | cases hs
        · cases h
theorem den_good {nl all : Bool} {stop : Int} : ∀ {n : Nat} {l t : List Int} {k : Nat}, l.length ≤ n → ByteL l → den nl all stop l = some (t, k) → ByteL t ∧ t.length ≤ k
  | n, [], t, k, _, _, h => by cases h
  | 0, c :: l, t, k, hn, _, h => by simp at hn
  | n + 1, c :: l, t, k, hn, hb, h => by
    simp only [List.length_cons] at hn
    have hbl : ByteL l := fun d hd => hb d (List.mem_cons_of_mem _ hd)
    rw [den_cons] at h
    split at h
    · simp only [Option.some.injEq, Prod.mk.injEq] at h
      obtain ⟨rfl, rfl⟩ := h
      exact ⟨by simp [ByteL], by simp⟩
    · split at h
      · cases h
      · split at h
        · cases he : escL all l with
          | none => rw [he] at h; cases h
          | some x =>
            obtain ⟨b, k'⟩ := x
            rw [he] at h
            have hp := esc_good he
            simp only at h
            cases hd : den nl all stop (l.drop (k' - 1)) with
            | none => rw [hd] at h; cases h
            | some y =>
              obtain ⟨t', k2⟩ := y
              rw [hd] at h
              simp only [Option.map_some, Option.some.injEq, Prod.mk.injEq] at h
              obtain ⟨rfl, rfl⟩ := h
              have := den_good (n := n) (by rw [List.length_drop]; omega) (hbl.drop _) hd
              refine ⟨fun c hc => ?_, by rw [List.length_append]; omega⟩
              rcases List.mem_append.1 hc with hc | hc
              · exact hp.1 c hc
              · exact this.1 c hc
        · cases hd : den nl all stop l with
          | none => rw [hd] at h; cases h
          | some y =>
            obtain ⟨t', k2⟩ := y
            rw [hd] at h
            simp only [Option.map_some, Option.some.injEq, Prod.mk.injEq] at h
            obtain ⟨rfl, rfl⟩ := h
            have := den_good (n := n) (by omega) hbl hd
            refine ⟨fun d hd => ?_, by rw [List.length_cons]; omega⟩
            rcases List.mem_cons.1 hd with rfl | hd
            · exact hb _ List.mem_cons_self
            · exact this.1 d hd

theorem S_bs {l : List Int} (h : ByteL l) : bs (S l) = l := bs_strOfNums h
theorem iri_may {t : List Int} (hb : ByteL t) (h : isIRIB t = true) : mayS 1 (S t) noneB = true := by
  rw [mayS_iri, S_bs hb]
  exact h
theorem blank_may {t : List Int} (hb : ByteL t) (h : isBlankB t = true) : mayS 2 (S t) noneB = true := by
  rw [mayS_blank, S_bs hb]
  exact h

/-- Nothing of a symbol is bad. -/
theorem one_good {l : List Int} (hb : ByteL l) {x : Sym} {n : Nat} (h : one l = .got x n) : x.place = 0 ∧ GoodS l.length x := by
  have hm := firstT_mem h
  unfold takers at hm
  simp only [List.mem_cons, List.not_mem_nil, or_false] at hm
  have base : ∀ (k : Nat) (t : List Int), ByteL t → t.length ≤ l.length → k ≠ 1 → k ≠ 2 → (k = 4 → isTagS (S t) = true) → (k = 7 → (58 : Int) ∈ t) → GoodS l.length (symT k t) := fun k t h1 h2 k1 k2 h4 h7 =>
    ⟨h1, by simp [symT], by simp [symT], h2, by simp [symT], by simp [symT], by simp [symT], fun e => absurd e k1, fun e => absurd e k2, h4, h7⟩
  rcases hm with hm | hm | hm | hm | hm | hm | hm | hm
  · have hm := hm.symm
    unfold markT at hm
    cases hf : markL.find? (fun m => m.isPrefixOf l) with
    | none => rw [hf] at hm; cases hm
    | some m =>
      rw [hf] at hm
      simp only [Took.got.injEq] at hm
      obtain ⟨rfl, rfl⟩ := hm
      have h0 := List.find?_some hf
      have h1 := prefix_len h0
      have h2 := List.mem_of_find?_eq_some hf
      have h3 : ∀ m ∈ markL, ByteL m := by unfold ByteL IsByte; decide
      exact ⟨rfl, base 8 m (h3 m h2) h1 (by decide) (by decide) (fun e => absurd e (by decide)) (fun e => absurd e (by decide))⟩
  · have hm := hm.symm
    unfold nameT at hm
    split at hm
    · rename_i hc
      split at hm
      · cases hm
      · simp only [Took.got.injEq] at hm
        obtain ⟨rfl, rfl⟩ := hm
        refine ⟨rfl, base 7 _ (hb.take _) (by rw [List.length_take]; omega) (by decide) (by decide) (fun e => absurd e (by decide)) (fun _ => ?_)⟩
        unfold colonB at hc
        rw [Bool.and_eq_true] at hc
        obtain ⟨r, hr⟩ := List.isPrefixOf_iff_prefix.1 hc.1
        have hg : l[spanL letterDigit l]? = some 58 := by
          have : (l.drop (spanL letterDigit l))[0]? = some 58 := by rw [← hr]; rfl
          rwa [List.getElem?_drop, Nat.add_zero] at this
        refine List.mem_of_getElem? (i := spanL letterDigit l) ?_
        rw [List.getElem?_take, if_pos (by omega)]
        exact hg
    · cases hm
  · have hm := hm.symm
    unfold wordT at hm
    split at hm
    · cases hm
    · split at hm
      · simp only [Took.got.injEq] at hm
        obtain ⟨rfl, rfl⟩ := hm
        exact ⟨rfl, base 6 _ (hb.take _) (by rw [List.length_take]; omega) (by decide) (by decide) (fun e => absurd e (by decide)) (fun e => absurd e (by decide))⟩
      · cases hm
  · have hm := hm.symm
    unfold varT at hm
    split at hm
    · split at hm
      · simp only [Took.got.injEq] at hm
        obtain ⟨rfl, rfl⟩ := hm
        exact ⟨rfl, base 5 _ ((hb.drop 1).take _) (by rw [List.length_take, List.length_drop]; omega) (by decide) (by decide) (fun e => absurd e (by decide)) (fun e => absurd e (by decide))⟩
      · cases hm
    · cases hm
  · have hm := hm.symm
    unfold quotedT at hm
    split at hm
    · split at hm
      · cases hm
      · rename_i t k hd
        simp only [Took.got.injEq] at hm
        obtain ⟨rfl, rfl⟩ := hm
        have h1 := den_good (Nat.le_refl _) (hb.drop 1) hd
        have h2 := den_pos (Nat.le_refl _) hd
        rw [List.length_drop] at h2
        exact ⟨rfl, base 3 t h1.1 (by omega) (by decide) (by decide) (fun e => absurd e (by decide)) (fun e => absurd e (by decide))⟩
    · cases hm
  · have hm := hm.symm
    unfold iriT at hm
    split at hm
    · split at hm
      · cases hm
      · rename_i t k hd
        split at hm
        · rename_i hi
          simp only [Took.got.injEq] at hm
          obtain ⟨rfl, rfl⟩ := hm
          have h1 := den_good (Nat.le_refl _) (hb.drop 1) hd
          have h2 := den_pos (Nat.le_refl _) hd
          rw [List.length_drop] at h2
          exact ⟨rfl, by simp, h1.1, by simp, by simp, by show t.length ≤ _; omega, by simp, by simp, fun _ => ⟨rfl, rfl, iri_may h1.1 hi⟩, fun e => absurd e (by show (1 : Nat) ≠ 2; decide), fun e => absurd e (by show (1 : Nat) ≠ 4; decide), fun e => absurd e (by show (1 : Nat) ≠ 7; decide)⟩
        · cases hm
    · cases hm
  · have hm := hm.symm
    unfold blankT at hm
    split at hm
    · split at hm
      · rename_i hi
        simp only [Took.got.injEq] at hm
        obtain ⟨rfl, rfl⟩ := hm
        have h1 := (hb.drop 2).take (spanL letterDigit (l.drop 2))
        exact ⟨rfl, by simp, h1, by simp, by simp, by show ((l.drop 2).take _).length ≤ _; rw [List.length_take, List.length_drop]; omega, by simp, by simp, fun e => absurd e (by show (2 : Nat) ≠ 1; decide), fun _ => ⟨rfl, rfl, blank_may h1 hi⟩, fun e => absurd e (by show (2 : Nat) ≠ 4; decide), fun e => absurd e (by show (2 : Nat) ≠ 7; decide)⟩
      · cases hm
    · cases hm
  · have hm := hm.symm
    unfold langT at hm
    split at hm
    · split at hm
      · rename_i hi
        simp only [Took.got.injEq] at hm
        obtain ⟨rfl, rfl⟩ := hm
        have h1 := (hb.drop 1).take (spanL langC (l.drop 1))
        refine ⟨rfl, base 4 _ h1 (by rw [List.length_take, List.length_drop]; omega) (by decide) (by decide) (fun _ => ?_) (fun e => absurd e (by decide))⟩
        rw [tagS_any, S_bs h1]
        exact hi
      · cases hm
    · cases hm
theorem toks_good : ∀ (n : Nat) (l : List Int) (p N : Nat), l.length ≤ n → ByteL l → p + l.length ≤ N → ∀ x ∈ (toks l p).1, GoodS N x := by
  intro n
  induction n with
  | zero =>
    intro l p N hn _ _
    obtain rfl : l = [] := List.eq_nil_of_length_eq_zero (by omega)
    rw [toks_eq]
    simp [sk]
  | succ n ih =>
    intro l p N hn hb hN
    rw [toks_eq l p]
    have hs := sk_le false l
    split
    · simp
    · cases ho : one (l.drop (sk false l)) with
      | no => simp
      | bad => simp
      | got x m =>
        have hp := one_pos ho
        rw [List.length_drop] at hp
        simp only
        intro y hy
        rcases List.mem_cons.1 hy with rfl | hy
        · obtain ⟨_, g⟩ := one_good (hb.drop _) ho
          have hl : (l.drop (sk false l)).length ≤ N := by rw [List.length_drop]; omega
          exact ⟨g.bt, g.btt, g.bte, Nat.le_trans g.lt hl, Nat.le_trans g.ltt hl, Nat.le_trans g.lte hl, by show p + sk false l ≤ N; omega, g.iri, g.blank, g.lang, g.name⟩
        · exact ih (l.drop (sk false l + m)) (p + sk false l + m) N (by rw [List.length_drop]; omega) (hb.drop _) (by rw [List.length_drop]; omega) y hy
theorem all_good (s : ByteArray) : ∀ x ∈ (allL (bs s)).1, GoodS s.size x := toks_good _ _ 0 _ (Nat.le_refl _) (bs_byte s) (by rw [bs_length]; omega)
end Go.Proofs.YtachijkjcbajmaaGreatDoor
/-
  PLAIN MATHEMATICS OF LAYER 5: triples as texts.
-/

namespace Go.Proofs.YtachijkjcbajmaaGreatDoor
open Go.RowKit
open Utf Term Lex

/-- No prefixes. -/
abbrev noP : ByteArray → Option ByteArray := fun _ => none
theorem noP_small : ∀ a b, noP a = some b → b.size ≤ 1000000000 := fun _ _ h => by cases h

/-- n terms, or the symbols from the one on that is none. -/
inductive Took3 where
  | no (l : List Sym) | yes (ts : List TermD) (l : List Sym)
def Took3.put (ts : List TermD) : Took3 → Took3
  | .no l => .no l
  | .yes us l => .yes (ts ++ us) l
def threeS : Nat → List Sym → Took3
  | 0, L => .yes [] L
  | n + 1, L => match readS noP L with
    | none => .no L
    | some (t, k) => (threeS n (L.drop k)).put [t]
theorem put_put (a b : List TermD) (r : Took3) : (r.put b).put a = r.put (a ++ b) := by
  cases r with
  | no l => rfl
  | yes us l => simp [Took3.put]
theorem put_nil (r : Took3) : r.put [] = r := by cases r <;> rfl
theorem threeS_sub : ∀ {n : Nat} {L ts : List _} {l : List Sym}, threeS n L = .yes ts l → ts.length = n ∧ ∃ k, l = L.drop k ∧ k ≤ L.length ∧ (0 < n → 0 < k)
  | 0, L, ts, l, h => by
    simp only [threeS, Took3.yes.injEq] at h
    obtain ⟨rfl, rfl⟩ := h
    exact ⟨rfl, 0, rfl, Nat.zero_le _, fun h => absurd h (by omega)⟩
  | n + 1, L, ts, l, h => by
    rw [threeS] at h
    cases hr : readS noP L with
    | none => rw [hr] at h; cases h
    | some x =>
      obtain ⟨t, k⟩ := x
      rw [hr] at h
      simp only at h
      have hp := readS_pos hr
      cases ht : threeS n (L.drop k) with
      | no l' => rw [ht] at h; cases h
      | yes us l' =>
        rw [ht] at h
        simp only [Took3.put, Took3.yes.injEq] at h
        obtain ⟨rfl, rfl⟩ := h
        obtain ⟨h1, j, h2, h3, _⟩ := threeS_sub ht
        rw [List.length_drop] at h3
        exact ⟨by simp [h1], k + j, by rw [h2, List.drop_drop], by omega, fun _ => by omega⟩
theorem threeS_no : ∀ {n : Nat} {L : List Sym} {l : List Sym}, threeS n L = .no l → ∃ k, l = L.drop k
  | 0, L, l, h => by cases h
  | n + 1, L, l, h => by
    rw [threeS] at h
    cases hr : readS noP L with
    | none => rw [hr] at h; cases h; exact ⟨0, rfl⟩
    | some x =>
      obtain ⟨t, k⟩ := x
      rw [hr] at h
      simp only at h
      cases ht : threeS n (L.drop k) with
      | no l' =>
        rw [ht] at h
        cases h
        obtain ⟨j, hj⟩ := threeS_no ht
        exact ⟨k + j, by rw [hj, List.drop_drop]⟩
      | yes us l' => rw [ht] at h; cases h

/-- A triple and its end. -/
inductive Stm where
  | no (l : List Sym) | yes (t : TripD) (l : List Sym)
def isEnd (x : Sym) : Bool := decide (x.kind = 8) && decide (x.text = [46])
def endS (t : TripD) : List Sym → Stm
  | [] => .no []
  | x :: r => if isEnd x = true then .yes t r else .no (x :: r)
def tripS (L : List Sym) : Took3 → Stm
  | .no l => .no l
  | .yes [a, b, c] l => if addD a b c = true then endS (a, b, c) l else .no L
  | .yes _ l => .no l
def stmS (L : List Sym) : Stm := tripS L (threeS 3 L)
theorem stmS_yes {L : List Sym} {t : TripD} {l : List Sym} (h : stmS L = .yes t l) : ∃ k, l = L.drop k ∧ 0 < k ∧ k ≤ L.length := by
  unfold stmS at h
  cases ht : threeS 3 L with
  | no l' => rw [ht] at h; cases h
  | yes ts l' =>
    rw [ht] at h
    obtain ⟨h1, k, rfl, h2, h3⟩ := threeS_sub ht
    match ts, h1 with
    | [a, b, c], _ =>
      simp only [tripS] at h
      split at h
      · cases hl : L.drop k with
        | nil => rw [hl] at h; cases h
        | cons x r =>
          rw [hl, endS] at h
          split at h
          · simp only [Stm.yes.injEq] at h
            have hlen : (L.drop k).length = r.length + 1 := by rw [hl]; rfl
            rw [List.length_drop] at hlen
            refine ⟨k + 1, ?_, by omega, by omega⟩
            rw [← h.2, ← List.drop_drop, hl]
            rfl
          · cases h
      · cases h
theorem stmS_no {L : List Sym} {l : List Sym} (h : stmS L = .no l) : ∃ k, l = L.drop k := by
  unfold stmS at h
  cases ht : threeS 3 L with
  | no l' =>
    rw [ht] at h
    cases h
    exact threeS_no ht
  | yes ts l' =>
    rw [ht] at h
    obtain ⟨h1, k, rfl, h2, h3⟩ := threeS_sub ht
    match ts, h1 with
    | [a, b, c], _ =>
      simp only [tripS] at h
      split at h
      · cases hl : L.drop k with
        | nil => rw [hl] at h; cases h; exact ⟨k, hl.symm⟩
        | cons x r =>
          rw [hl, endS] at h
          split at h
          · cases h
          · cases h; exact ⟨k, hl.symm⟩
      · cases h; exact ⟨0, rfl⟩

/-- The triples of symbols, or the symbols from the one on that is wrong. -/
inductive Par where
  | no (l : List Sym) | yes (ts : List TripD)
def Par.put (ts : List TripD) : Par → Par
  | .no l => .no l
  | .yes us => .yes (ts ++ us)
theorem Par.put_put (a b : List TripD) (r : Par) : (r.put b).put a = r.put (a ++ b) := by
  cases r with
  | no l => rfl
  | yes us => simp [Par.put]
theorem Par.put_nil (r : Par) : r.put [] = r := by cases r <;> rfl
def parseF : Nat → List Sym → Par
  | _, [] => .yes []
  | 0, x :: L => .no (x :: L)
  | f + 1, x :: L => match stmS (x :: L) with
    | .no l => .no l
    | .yes t l => (parseF f l).put [t]
def parseS (L : List Sym) : Par := parseF L.length L
theorem parseF_fuel : ∀ {f g : Nat} {L : List Sym}, L.length ≤ f → L.length ≤ g → parseF f L = parseF g L
  | f, g, [], _, _ => by cases f <;> cases g <;> rfl
  | 0, g, x :: L, h, _ => by simp at h
  | f + 1, 0, x :: L, _, h => by simp at h
  | f + 1, g + 1, x :: L, h1, h2 => by
    rw [parseF, parseF]
    cases hs : stmS (x :: L) with
    | no l => rfl
    | yes t l =>
      obtain ⟨k, rfl, hk, _⟩ := stmS_yes hs
      simp only [List.length_cons] at h1 h2
      simp only
      rw [parseF_fuel (f := f) (g := g) (by rw [List.length_drop, List.length_cons]; omega) (by rw [List.length_drop, List.length_cons]; omega)]
theorem parseS_nil : parseS [] = .yes [] := rfl
theorem parseS_cons (L : List Sym) (h : L ≠ []) : parseS L = match stmS L with
    | .no l => .no l
    | .yes t l => (parseS l).put [t] := by
  cases L with
  | nil => exact absurd rfl h
  | cons x L =>
    unfold parseS
    rw [List.length_cons, parseF]
    cases hs : stmS (x :: L) with
    | no l => rfl
    | yes t l =>
      obtain ⟨k, rfl, hk, _⟩ := stmS_yes hs
      simp only
      rw [parseF_fuel (f := L.length) (by rw [List.length_drop, List.length_cons]; omega) (Nat.le_refl _)]

/-- Where the first symbol begins; if there is none, the end. -/
def placeS (n : Nat) : List Sym → Nat
  | [] => n
  | x :: _ => x.place

/-- What a document is: its triples, or the position and the number of what is wrong. -/
inductive DocR where
  | bad (p c : Nat) | good (ts : List TripD)
def docOf (n : Nat) : Par → DocR
  | .no l => .bad (placeS n l) 4
  | .yes ts => .good ts
def docS (s : ByteArray) : DocR :=
  if 1048576 < s.size then .bad 0 3
  else if wfL (bs s) < s.size then .bad (wfL (bs s)) 4
  else if (allL (bs s)).2 < s.size then .bad (allL (bs s)).2 4
  else docOf s.size (parseS (allL (bs s)).1)
theorem docS_bad {s : ByteArray} {p c : Nat} (h : docS s = .bad p c) : c = 3 ∨ c = 4 := by
  unfold docS at h
  split at h
  · simp only [DocR.bad.injEq] at h; omega
  · split at h
    · simp only [DocR.bad.injEq] at h; omega
    · split at h
      · simp only [DocR.bad.injEq] at h; omega
      · cases hp : parseS (allL (bs s)).1 with
        | no l =>
          rw [hp] at h
          simp only [docOf, DocR.bad.injEq] at h
          omega
        | yes ts => rw [hp] at h; cases h
end Go.Proofs.YtachijkjcbajmaaGreatDoor
/-
  CONTRACTS OF lex.named, whole, Read, OF ANY SYMBOLS.
-/

namespace Go.Proofs.YtachijkjcbajmaaGreatDoor
open Go.RowKit
open Utf Term Lex
set_option linter.unusedVariables false
set_option linter.unusedSimpArgs false

/-- What named answers. -/
def NamedOut (P : ByteArray → Option ByteArray) (x : Sym) (w : World) (e : Ending) (w' : World) : Prop :=
  ∃ (t : TermD) (b : Bool), e = .returned (.tuple #[termD t, .bool b]) ∧ Below w.heap.size w w' ∧ (∀ u, namedS P x = some u → b = true ∧ t = u) ∧ (namedS P x = none → b = false)
theorem NamedOut.yes {P : ByteArray → Option ByteArray} {x : Sym} {w : World} {e : Ending} {w' : World} {t : TermD} (h : namedS P x = some t) (he : e = .returned (.tuple #[termD t, .bool true])) (hB : Below w.heap.size w w') : NamedOut P x w e w' :=
  ⟨t, true, he, hB, fun u hu => by rw [h] at hu; exact ⟨rfl, Option.some.inj hu⟩, fun hu => by rw [h] at hu; cases hu⟩
theorem NamedOut.no {P : ByteArray → Option ByteArray} {x : Sym} {w : World} {e : Ending} {w' : World} {t : TermD} (h : namedS P x = none) (he : e = .returned (.tuple #[termD t, .bool false])) (hB : Below w.heap.size w w') : NamedOut P x w e w' :=
  ⟨t, false, he, hB, fun u hu => by (rw [h] at hu; cases hu), fun _ => rfl⟩

theorem strNums_size (l : List Int) : (strOfNums l).size = l.length := strOfNums_size l

set_option maxRecDepth 100000 in
set_option maxHeartbeats 8000000 in
theorem named_other (k : Int) (t0 : ByteArray) (tk : Int) (tt te : ByteArray) (p : Int) (mv : Value) (h1 : k ≠ 1) (h2 : k ≠ 2) (h7 : k ≠ 7) (w : World) :
    Calls Tryz.prog 60 #[.agg (symC k t0 tk tt te p), mv] w fun e w' => e = .returned (.tuple #[.agg (termC 0 ⟨#[]⟩ ⟨#[]⟩), .bool false]) ∧ Below w.heap.size w w' := by
  have hB : Below w.heap.size w (((w.alloc (.cells (symC k t0 tk tt te p) 43)).alloc (.cells zeroTermC 31)).alloc (.cells (termC tk tt te) 31)) := below_next (below_next (below_lex _ _) (below_lex _ _)) (below_lex _ _)
  have hZ : BlockAt (((w.alloc (.cells (symC k t0 tk tt te p) 43)).alloc (.cells zeroTermC 31)).alloc (.cells (termC tk tt te) 31)) (w.heap.size + 1) zeroTermC 31 := by
    have := (block_new (w.alloc (.cells (symC k t0 tk tt te p) 43)) zeroTermC 31).alloc (.cells (termC tk tt te) 31)
    rwa [World.size_alloc] at this
  have e1 : (k == 1) = false := by simpa using h1
  have e2 : (k == 2) = false := by simpa using h2
  have e7 : (k == 7) = false := by simpa using h7
  obtain ⟨W0, hW0⟩ : ∃ W0, W0 = (((w.alloc (.cells (symC k t0 tk tt te p) 43)).alloc (.cells zeroTermC 31)).alloc (.cells (termC tk tt te) 31)) := ⟨_, rfl⟩
  rw [← hW0] at hB hZ
  have HB := Lib.hid hB
  have HZ := Lib.hid hZ
  have HW0 := Lib.hid hW0
  clear hB hZ hW0 h1 h2 h7
  go_enter Tryz.func60, Tryz.ntmps60
  go_upto_region 12 with fail
  rw [← HW0.out]
  have k0 := HZ.out.cell (j := 0) rfl
  have k1 := HZ.out.cell (j := 1) rfl
  have k2 := HZ.out.cell (j := 2) rfl
  have kf : ∀ j, W0.frozen? ⟨w.heap.size + 1, j, none⟩ = false := fun j => HZ.out.free j
  go_wp2_with fail
  refine bodyPost_ret (results_lex rfl _ _ _ (w.heap.size + 1) 31 _ (0, 0) _ rfl (HZ.out.set3 _ _ _) Tryz.underlying31 (by kernel_rfl)) rfl ⟨rfl, ((HB.out.setCell (Nat.le_succ _) _).setCell (Nat.le_succ _) _).setCell (Nat.le_succ _) _⟩

/-- What a map of prefixes tells of each word. -/
def MapS (mv : Value) (P : ByteArray → Option ByteArray) (w : World) : Prop :=
  ∀ (a : ByteArray), (Instr.lookup 35 mv (.string a) true).run Tryz.prog w = .ok (.tuple #[.string ((P a).getD ⟨#[]⟩), .bool (P a).isSome]) w
theorem mapS_nil (w : World) : MapS (.map none) (fun _ => none) w := by
  intro a
  have hc : (Instr.checkKey true 10000 9 (.string a)).run Tryz.prog w = .ok () w := MapKept.run_checkKey Tryz.underlying9 (by simp [MapKept.IsKey]) true 9999
  have hz : (zeroValue 9).run Tryz.prog w = .ok (.string ⟨#[]⟩) w := by kernel_rfl
  have hf : (Instr.findKey 9 (.string a) []).run Tryz.prog w = .ok none w := MapKept.run_findKey Tryz.underlying9 (by rfl)
  simp [Instr.lookup, run_underlying Tryz.underlying35, hc, hz, hf, Result.andThen]

set_option maxRecDepth 100000 in
set_option maxHeartbeats 8000000 in
theorem named_name (P : ByteArray → Option ByteArray) (x : Sym) (N : Nat) (hk : x.kind = 7) (hg : GoodS N x) (hN : N ≤ 1000000000) (mv : Value) (w : World) (he : LexEnv w) (hm : ∀ W, Below w.heap.size w W → MapS mv P W) (hP : ∀ a b, P a = some b → b.size ≤ 1000000000) :
    Calls Tryz.prog 60 #[.agg (symC 7 (strOfNums x.text) x.tk (strOfNums x.tt) (strOfNums x.te) x.place), mv] w (NamedOut P x w) := by
  have ht : (strOfNums x.text).size ≤ 1000000000 := by rw [strNums_size]; have := hg.lt; omega
  have hbs : bs (strOfNums x.text) = x.text := bs_strOfNums hg.bt
  have h58 := hg.name hk
  have hcut := cutS (strOfNums x.text) (by rw [hbs]; exact h58)
  rw [hbs] at hcut
  have hl : (S (localN x.text)).size ≤ 1000000000 := by show (strOfNums _).size ≤ _; rw [strNums_size]; have := localN_len x.text; have := hg.lt; omega
  have hnm : namedS P x = match P (S (wordN x.text)) with
    | none => none
    | some b => if mayS 1 (b ++ S (localN x.text)) noneB = true then some (1, b ++ S (localN x.text), noneB) else none := by
    unfold namedS
    rw [if_neg (by omega), if_neg (by omega), if_pos hk]
    cases P (S (wordN x.text)) <;> rfl
  obtain ⟨F, hF⟩ : ∃ F, F = NamedOut P x w := ⟨_, rfl⟩
  have HF : Hid (F = NamedOut P x w) := Lib.hid hF
  rw [← hF]
  clear hF
  generalize strOfNums x.text = t0 at *
  generalize strOfNums x.tt = tt at *
  generalize strOfNums x.te = te at *
  generalize (x.tk : Int) = tk at *
  generalize (x.place : Int) = p at *
  have hB : Below w.heap.size w (((w.alloc (.cells (symC 7 t0 tk tt te p) 43)).alloc (.cells zeroTermC 31)).alloc (.cells (termC tk tt te) 31)) := below_next (below_next (below_lex _ _) (below_lex _ _)) (below_lex _ _)
  have hX : BlockAt (((w.alloc (.cells (symC 7 t0 tk tt te p) 43)).alloc (.cells zeroTermC 31)).alloc (.cells (termC tk tt te) 31)) w.heap.size (symC 7 t0 tk tt te p) 43 := ((block_new w _ _).alloc _).alloc _
  have hZ : BlockAt (((w.alloc (.cells (symC 7 t0 tk tt te p) 43)).alloc (.cells zeroTermC 31)).alloc (.cells (termC tk tt te) 31)) (w.heap.size + 1) zeroTermC 31 := by
    have := (block_new (w.alloc (.cells (symC 7 t0 tk tt te p) 43)) zeroTermC 31).alloc (.cells (termC tk tt te) 31)
    rwa [World.size_alloc] at this
  have hT : BlockAt (((w.alloc (.cells (symC 7 t0 tk tt te p) 43)).alloc (.cells zeroTermC 31)).alloc (.cells (termC tk tt te) 31)) (w.heap.size + 1 + 1) (termC tk tt te) 31 := by
    have := block_new ((w.alloc (.cells (symC 7 t0 tk tt te p) 43)).alloc (.cells zeroTermC 31)) (termC tk tt te) 31
    rwa [World.size_alloc, World.size_alloc] at this
  obtain ⟨W0, hW0⟩ : ∃ W0, W0 = (((w.alloc (.cells (symC 7 t0 tk tt te p) 43)).alloc (.cells zeroTermC 31)).alloc (.cells (termC tk tt te) 31)) := ⟨_, rfl⟩
  rw [← hW0] at hB hZ hT hX
  generalize S (localN x.text) = l at *
  generalize S (wordN x.text) = a at *
  have HC : Hid (Calls Tryz.prog 89 #[.string t0, .string ⟨#[58]⟩] W0 fun e w' => e = .returned (.tuple #[.string a, .string l, .bool true]) ∧ Below W0.heap.size W0 w') := Lib.hid (by
    obtain ⟨m, hm⟩ := (he.below hB).len
    refine (Tryz.strings_Cut t0 ⟨#[58]⟩ m W0 (by omega) hm).mono ?_
    rintro e w' ⟨rfl, n, rfl⟩
    refine ⟨?_, lex_drewN _ _ _⟩
    obtain ⟨c1, c2, c3⟩ := hcut
    rw [show (⟨#[58]⟩ : ByteArray).data.toList = [58] from rfl, c1, c2, c3])
  have HB := Lib.hid hB
  have HZ := Lib.hid hZ
  have HT := Lib.hid hT
  have HX := Lib.hid hX
  have HW0 := Lib.hid hW0
  have HM := Lib.hid hm
  have HE := Lib.hid he
  have HNm := Lib.hid hnm
  have HPb := Lib.hid (hP a)
  clear hB hZ hT hX he hW0 hm hcut hnm hP hg h58 hbs
  go_enter Tryz.func60, Tryz.ntmps60
  go_upto_region 8 with fail
  rw [← HW0.out]
  have y1 := HX.out.cell (j := 1) rfl
  go_upto_region 9 with (go_at_call 89; refine HC.out.mono ?_; rintro e y ⟨rfl, hY⟩)
  have HB1 := Lib.hid (HB.out.trans (hY.mono HB.out.size))
  have HZ1 := Lib.hid (HZ.out.kept hY)
  have HT1 := Lib.hid (HT.out.kept hY)
  clear hY y1 HX HC HB HZ HT
  have z0 := HT1.out.cell (j := 0) rfl
  have z1 := HT1.out.cell (j := 1) rfl
  have z2 := HT1.out.cell (j := 2) rfl
  have zf : ∀ j, y.frozen? ⟨w.heap.size + 1 + 1, j, none⟩ = false := fun j => HT1.out.free j
  have hlk := HM.out y HB1.out a
  have HRn : Hid ((P a).isSome = false → ∀ (t : TermD) W, Below w.heap.size w W → F (.returned (.tuple #[termD t, .bool false])) W) := Lib.hid (fun h t W hW => by
    rw [HF.out]
    exact NamedOut.no (by rw [HNm.out, Option.isSome_eq_false_iff.1 h |> Option.isNone_iff_eq_none.1]) rfl hW)
  have HRy : Hid ((P a).isSome = true → ∀ W, Below w.heap.size w W → F (.returned (.tuple #[termD (1, (P a).getD ⟨#[]⟩ ++ l, noneB), .bool (mayS 1 ((P a).getD ⟨#[]⟩ ++ l) noneB)])) W) := Lib.hid (fun h W hW => by
    obtain ⟨b, hb⟩ := Option.isSome_iff_exists.1 h
    rw [HF.out, hb, Option.getD_some]
    cases hmy : mayS 1 (b ++ l) noneB with
    | true => exact NamedOut.yes (by rw [HNm.out, hb]; simp only; rw [if_pos hmy]) rfl hW
    | false => exact NamedOut.no (by rw [HNm.out, hb]; simp only; rw [if_neg (by rw [hmy]; decide)]) rfl hW)
  have hb0 : ((P a).getD ⟨#[]⟩).size ≤ 1000000000 := by
    cases h : P a with
    | none => show (⟨#[]⟩ : ByteArray).size ≤ 1000000000; decide
    | some b => exact HPb.out b h
  clear HNm HPb HF HM
  generalize (P a).getD ⟨#[]⟩ = b0 at *
  generalize (P a).isSome = v at *
  have l1 : ¬ 9223372036854775807 < b0.size + l.size := by omega
  have hms : (b0 ++ l).size ≤ 1000000000000 := by rw [ByteArray.size_append]; omega
  go_upto_region 11 with fail
  have hB2 : Below w.heap.size w (((y.setCell ⟨w.heap.size + 1 + 1, 0, none⟩ (.int .i64 1)).setCell ⟨w.heap.size + 1 + 1, 1, none⟩ (.string (b0 ++ l))).setCell ⟨w.heap.size + 1 + 1, 2, none⟩ (.string ⟨#[]⟩)) := ((HB1.out.setCell (by show w.heap.size ≤ w.heap.size + 1 + 1; omega) _).setCell (by show w.heap.size ≤ w.heap.size + 1 + 1; omega) _).setCell (by show w.heap.size ≤ w.heap.size + 1 + 1; omega) _
  have hZ2 : BlockAt (((y.setCell ⟨w.heap.size + 1 + 1, 0, none⟩ (.int .i64 1)).setCell ⟨w.heap.size + 1 + 1, 1, none⟩ (.string (b0 ++ l))).setCell ⟨w.heap.size + 1 + 1, 2, none⟩ (.string ⟨#[]⟩)) (w.heap.size + 1) zeroTermC 31 := ((HZ1.out.other (by omega) 0 _).other (by omega) 1 _).other (by omega) 2 _
  have hT2 : BlockAt (((y.setCell ⟨w.heap.size + 1 + 1, 0, none⟩ (.int .i64 1)).setCell ⟨w.heap.size + 1 + 1, 1, none⟩ (.string (b0 ++ l))).setCell ⟨w.heap.size + 1 + 1, 2, none⟩ (.string ⟨#[]⟩)) (w.heap.size + 1 + 1) (termC 1 (b0 ++ l) ⟨#[]⟩) 31 := ((HT1.out.set 0 _).set 1 _).set 2 _
  clear z0 z1 z2 zf hlk HZ1 HT1 HB1
  generalize (((y.setCell ⟨w.heap.size + 1 + 1, 0, none⟩ (.int .i64 1)).setCell ⟨w.heap.size + 1 + 1, 1, none⟩ (.string (b0 ++ l))).setCell ⟨w.heap.size + 1 + 1, 2, none⟩ (.string ⟨#[]⟩)) = W2 at *
  have HB2 := Lib.hid hB2
  have HZ2 := Lib.hid hZ2
  have HT2 := Lib.hid hT2
  clear hB2 hZ2 hT2 l1
  generalize b0 ++ l = txt at *
  have x0 := HT2.out.cell (j := 0) rfl
  have x1 := HT2.out.cell (j := 1) rfl
  have x2 := HT2.out.cell (j := 2) rfl
  have k0 := HZ2.out.cell (j := 0) rfl
  have k1 := HZ2.out.cell (j := 1) rfl
  have k2 := HZ2.out.cell (j := 2) rfl
  have kf : ∀ j, W2.frozen? ⟨w.heap.size + 1, j, none⟩ = false := fun j => HZ2.out.free j
  cases v with
  | false =>
    go_region_with fail
    all_goals
      go_wp2
      refine bodyPost_ret (results_lex (p := 4) (u := 5) rfl _ _ _ (w.heap.size + 1) 31 _ (0, 0) _ rfl (HZ2.out.set3 _ _ _) Tryz.underlying31 (by kernel_rfl)) rfl (HRn.out (by trivial) (1, txt, ⟨#[]⟩) _ (((HB2.out.setCell (Nat.le_succ _) _).setCell (Nat.le_succ _) _).setCell (Nat.le_succ _) _).drew)
  | true =>
    have HMy : Hid (∀ n, Calls Tryz.prog 61 #[.agg (termC 1 txt ⟨#[]⟩)] (W2.drewN n) fun e w' => e = .returned (.bool (mayS 1 txt ⟨#[]⟩)) ∧ Below W2.heap.size W2 w') := Lib.hid (fun n => (may_at 1 txt ⟨#[]⟩ _ rfl hms (by decide) (W2.drewN n) (HE.out.below (HB2.out.trans ((lex_drewN _ W2 n).mono HB2.out.size)))).mono fun e w' h => ⟨h.1, (lex_drewN W2.heap.size W2 n).trans h.2⟩)
    clear k0 k1 k2 kf
    go_region_with ((go_at_call 61; refine (HMy.out _).mono ?_; rintro e z ⟨rfl, hY⟩; have k0 := (HZ2.out.kept hY).cell (j := 0) rfl; have k1 := (HZ2.out.kept hY).cell (j := 1) rfl; have k2 := (HZ2.out.kept hY).cell (j := 2) rfl; have kf : ∀ j, z.frozen? ⟨w.heap.size + 1, j, none⟩ = false := fun j => (HZ2.out.kept hY).free j; have z0 := (HT2.out.kept hY).cell (j := 0) rfl; have z1 := (HT2.out.kept hY).cell (j := 1) rfl; have z2 := (HT2.out.kept hY).cell (j := 2) rfl))
    all_goals
      have HB3 := Lib.hid (HB2.out.trans (hY.mono HB2.out.size))
      have HZ3 := Lib.hid (HZ2.out.kept hY)
      clear hY
      go_wp2
      refine bodyPost_ret (results_lex (p := 4) (u := 5) rfl _ _ _ (w.heap.size + 1) 31 _ (0, 0) _ rfl (HZ3.out.set3 _ _ _) Tryz.underlying31 (by kernel_rfl)) rfl (HRy.out (by trivial) _ (((HB3.out.setCell (Nat.le_succ _) _).setCell (Nat.le_succ _) _).setCell (Nat.le_succ _) _))
end Go.Proofs.YtachijkjcbajmaaGreatDoor
/-
  THE CONTRACT OF lex.whole, OF ANY SYMBOLS, WHEREVER THE SLICE BEGINS.
-/

namespace Go.Proofs.YtachijkjcbajmaaGreatDoor
open Go.RowKit
open Utf Term Lex
set_option linter.unusedVariables false
set_option linter.unusedSimpArgs false

/-- What whole answers: the term r, or none. -/
def WholeOut (r : Option TermD) (w : World) (e : Ending) (w' : World) : Prop :=
  ∃ (t : TermD) (b : Bool), e = .returned (.tuple #[termD t, .bool b]) ∧ Below w.heap.size w w' ∧ (∀ u, r = some u → b = true ∧ t = u) ∧ (r = none → b = false)
theorem WholeOut.yes {r : Option TermD} {w : World} {e : Ending} {w' : World} {t : TermD} (h : r = some t) (he : e = .returned (.tuple #[termD t, .bool true])) (hB : Below w.heap.size w w') : WholeOut r w e w' :=
  ⟨t, true, he, hB, fun u hu => by rw [h] at hu; exact ⟨rfl, Option.some.inj hu⟩, fun hu => by rw [h] at hu; cases hu⟩
theorem WholeOut.no {r : Option TermD} {w : World} {e : Ending} {w' : World} (t : TermD) (h : r = none) (he : e = .returned (.tuple #[termD t, .bool false])) (hB : Below w.heap.size w w') : WholeOut r w e w' :=
  ⟨t, false, he, hB, fun u hu => by (rw [h] at hu; cases hu), fun _ => rfl⟩
theorem okT_out {t : TermD} {w : World} {e : Ending} {w' : World} (he : e = .returned (.tuple #[termD t, .bool (mayD t)])) (hB : Below w.heap.size w w') : WholeOut (okT t) w e w' := by
  cases h : mayD t with
  | true => exact .yes (by unfold okT; rw [if_pos h]) (by rw [← h]; exact he) hB
  | false => exact .no t (by unfold okT; rw [if_neg (by rw [h]; decide)]) (by rw [← h]; exact he) hB

set_option maxRecDepth 100000 in
set_option maxHeartbeats 8000000 in
/-- One symbol that is no string. -/
theorem whole_1 (g o cap : Nat) (hcap : 1 ≤ cap) (k : Int) (hk : k ≠ 3) (t0 : ByteArray) (tk : Int) (tt te : ByteArray) (p : Int) (mv : Value) (r : Option TermD) (w : World) (hc : SixAt w g o (symC k t0 tk tt te p))
    (hN : ∀ W, Below w.heap.size w W → Calls Tryz.prog 60 #[.agg (symC k t0 tk tt te p), mv] W (WholeOut r W)) :
    Calls Tryz.prog 32 #[.slice (some ⟨g, o, none⟩) 1 cap, mv] w (WholeOut r w) := by
  have hB : Below w.heap.size w (w.alloc (.cells zeroTermC 31)) := below_lex _ _
  have hZ : BlockAt (w.alloc (.cells zeroTermC 31)) w.heap.size zeroTermC 31 := block_new _ _ _
  obtain ⟨W0, hW0⟩ : ∃ W0, W0 = w.alloc (.cells zeroTermC 31) := ⟨_, rfl⟩
  rw [← hW0] at hB hZ
  have HM := Lib.hid (hN W0 hB)
  have hc0 := hc.below hB
  have x0 : W0.cell? ⟨g, o, none⟩ = some (.int .i64 k) := hc0 0 (by omega)
  have x1 : W0.cell? ⟨g, o + 1, none⟩ = some (.string t0) := hc0 1 (by omega)
  have x2 : W0.cell? ⟨g, o + 2, none⟩ = some (.int .i64 tk) := hc0 2 (by omega)
  have x3 : W0.cell? ⟨g, o + 3, none⟩ = some (.string tt) := hc0 3 (by omega)
  have x4 : W0.cell? ⟨g, o + 4, none⟩ = some (.string te) := hc0 4 (by omega)
  have x5 : W0.cell? ⟨g, o + 5, none⟩ = some (.int .i64 p) := hc0 5 (by omega)
  have e3 : (k != 3) = true := by simpa using hk
  have HB := Lib.hid hB
  have HZ := Lib.hid hZ
  have HW0 := Lib.hid hW0
  obtain ⟨F, hF⟩ : ∃ F, F = WholeOut r w := ⟨_, rfl⟩
  have HF := Lib.hid hF
  rw [← hF]
  clear hB hZ hN hc hc0 hW0 hk hF
  go_enter Tryz.func32, Tryz.ntmps32
  go_upto_region 1 with fail
  rw [← HW0.out]
  go_wp2_with (go_at_call 60; refine HM.out.mono ?_; rintro e y ⟨t, b, rfl, hY, hy, hn⟩; have k0 := (HZ.out.kept hY).cell (j := 0) rfl; have k1 := (HZ.out.kept hY).cell (j := 1) rfl; have k2 := (HZ.out.kept hY).cell (j := 2) rfl; have kf : ∀ j, y.frozen? ⟨w.heap.size, j, none⟩ = false := fun j => (HZ.out.kept hY).free j)
  have HB1 := Lib.hid (HB.out.trans (hY.mono HB.out.size))
  have HZ1 := Lib.hid (HZ.out.kept hY)
  refine bodyPost_ret (results_lex (p := 4) (u := 5) rfl _ _ _ w.heap.size 31 _ (0, 0) _ rfl (HZ1.out.set3 _ _ _) Tryz.underlying31 (by kernel_rfl)) rfl ?_
  rw [HF.out]
  exact ⟨t, b, rfl, ((HB1.out.setCell (Nat.le_refl _) _).setCell (Nat.le_refl _) _).setCell (Nat.le_refl _) _, hy, hn⟩

set_option maxRecDepth 100000 in
set_option maxHeartbeats 8000000 in
/-- One string. -/
theorem whole_1s (g o cap : Nat) (hcap : 1 ≤ cap) (tt : ByteArray) (tk : Int) (e1 e2 : ByteArray) (p : Int) (mv : Value) (ht : tt.size ≤ 1000000000000) (w : World) (he : LexEnv w) (hc : SixAt w g o (symC 3 tt tk e1 e2 p)) :
    Calls Tryz.prog 32 #[.slice (some ⟨g, o, none⟩) 1 cap, mv] w (WholeOut (okT (3, tt, noneB)) w) := by
  have hB : Below w.heap.size w ((w.alloc (.cells zeroTermC 31)).alloc (.cells (termC 3 tt ⟨#[]⟩) 31)) := below_next (below_lex _ _) (below_lex _ _)
  have hZ : BlockAt ((w.alloc (.cells zeroTermC 31)).alloc (.cells (termC 3 tt ⟨#[]⟩) 31)) w.heap.size zeroTermC 31 := (block_new w zeroTermC _).alloc _
  have hT : BlockAt ((w.alloc (.cells zeroTermC 31)).alloc (.cells (termC 3 tt ⟨#[]⟩) 31)) (w.heap.size + 1) (termC 3 tt ⟨#[]⟩) 31 := by
    have := block_new (w.alloc (.cells zeroTermC 31)) (termC 3 tt ⟨#[]⟩) 31
    rwa [World.size_alloc] at this
  have c0 : w.cell? ⟨g, o, none⟩ = some (.int .i64 3) := hc 0 (by omega)
  have c1 : w.cell? ⟨g, o + 1, none⟩ = some (.string tt) := hc 1 (by omega)
  have d0 : (w.alloc (.cells zeroTermC 31)).cell? ⟨g, o, none⟩ = some (.int .i64 3) := cell_kept_b (below_lex _ _) c0
  have d1 : (w.alloc (.cells zeroTermC 31)).cell? ⟨g, o + 1, none⟩ = some (.string tt) := cell_kept_b (below_lex _ _) c1
  obtain ⟨W0, hW0⟩ : ∃ W0, W0 = ((w.alloc (.cells zeroTermC 31)).alloc (.cells (termC 3 tt ⟨#[]⟩) 31)) := ⟨_, rfl⟩
  rw [← hW0] at hB hZ hT
  obtain ⟨v, hv⟩ : ∃ v, v = mayS 3 tt ⟨#[]⟩ := ⟨_, rfl⟩
  have HM : Hid (∀ n, Calls Tryz.prog 61 #[.agg (termC 3 tt ⟨#[]⟩)] (W0.drewN n) fun e w' => e = .returned (.bool v) ∧ Below W0.heap.size W0 w') := Lib.hid (fun n => (may_at 3 tt ⟨#[]⟩ v hv.symm ht (by decide) (W0.drewN n) (he.below (hB.trans ((lex_drewN _ W0 n).mono hB.size)))).mono fun e w' h => ⟨h.1, (lex_drewN W0.heap.size W0 n).trans h.2⟩)
  obtain ⟨F, hF⟩ : ∃ F, F = WholeOut (okT (3, tt, noneB)) w := ⟨_, rfl⟩
  have HF : Hid (∀ W, Below w.heap.size w W → F (.returned (.tuple #[.agg (termC 3 tt ⟨#[]⟩), .bool v])) W) := Lib.hid (fun W hW => by rw [hF, hv]; exact okT_out rfl hW)
  rw [← hF]
  have HB := Lib.hid hB
  have HZ := Lib.hid hZ
  have HT := Lib.hid hT
  have HW0 := Lib.hid hW0
  clear hB hZ hT he hW0 hc hF hv
  go_enter Tryz.func32, Tryz.ntmps32
  go_upto_region 16 with fail
  rw [← HW0.out]
  have x0 := HT.out.cell (j := 0) rfl
  have x1 := HT.out.cell (j := 1) rfl
  have x2 := HT.out.cell (j := 2) rfl
  go_region_with ((go_at_call 61; refine (HM.out _).mono ?_; rintro e y ⟨rfl, hY⟩; have k0 := (HZ.out.kept hY).cell (j := 0) rfl; have k1 := (HZ.out.kept hY).cell (j := 1) rfl; have k2 := (HZ.out.kept hY).cell (j := 2) rfl; have kf : ∀ j, y.frozen? ⟨w.heap.size, j, none⟩ = false := fun j => (HZ.out.kept hY).free j; have z0 := (HT.out.kept hY).cell (j := 0) rfl; have z1 := (HT.out.kept hY).cell (j := 1) rfl; have z2 := (HT.out.kept hY).cell (j := 2) rfl))
  all_goals
    have HB1 := Lib.hid (HB.out.trans (hY.mono HB.out.size))
    have HZ1 := Lib.hid (HZ.out.kept hY)
    clear hY
    go_wp2
    refine bodyPost_ret (results_lex (p := 4) (u := 5) rfl _ _ _ w.heap.size 31 _ (0, 0) _ rfl (HZ1.out.set3 _ _ _) Tryz.underlying31 (by kernel_rfl)) rfl (HF.out _ (((HB1.out.setCell (Nat.le_refl _) _).setCell (Nat.le_refl _) _).setCell (Nat.le_refl _) _))

set_option maxRecDepth 100000 in
set_option maxHeartbeats 8000000 in
/-- Two symbols or three, of which the first is no string. -/
theorem whole_n (g o n cap : Nat) (hn : 2 ≤ n) (hn3 : n ≤ 3) (hcap : n ≤ cap) (k : Int) (hk : k ≠ 3) (t0 : ByteArray) (tk : Int) (tt te : ByteArray) (p : Int) (mv : Value) (w : World) (hc : SixAt w g o (symC k t0 tk tt te p)) :
    Calls Tryz.prog 32 #[.slice (some ⟨g, o, none⟩) n cap, mv] w (WholeOut none w) := by
  have hB : Below w.heap.size w (w.alloc (.cells zeroTermC 31)) := below_lex _ _
  have hZ : BlockAt (w.alloc (.cells zeroTermC 31)) w.heap.size zeroTermC 31 := block_new _ _ _
  obtain ⟨W0, hW0⟩ : ∃ W0, W0 = w.alloc (.cells zeroTermC 31) := ⟨_, rfl⟩
  rw [← hW0] at hB hZ
  have hc0 := hc.below hB
  have x0 : W0.cell? ⟨g, o, none⟩ = some (.int .i64 k) := hc0 0 (by omega)
  have e3 : (k != 3) = true := by simpa using hk
  have n1 : decide ((1 : Int) < (n : Int)) = true := by simp; omega
  have n0 : (0 : Int) < (n : Int) := by omega
  have k0 := hZ.cell (j := 0) rfl
  have k1 := hZ.cell (j := 1) rfl
  have k2 := hZ.cell (j := 2) rfl
  have kf : ∀ j, W0.frozen? ⟨w.heap.size, j, none⟩ = false := fun j => hZ.free j
  have HB := Lib.hid hB
  have HZ := Lib.hid hZ
  have HW0 := Lib.hid hW0
  obtain ⟨F, hF⟩ : ∃ F, F = WholeOut none w := ⟨_, rfl⟩
  have HF := Lib.hid hF
  rw [← hF]
  clear hB hZ hc hc0 hW0 hk hF
  go_enter Tryz.func32, Tryz.ntmps32
  go_upto_region 1 with fail
  rw [← HW0.out]
  go_wp2_with fail
  refine bodyPost_ret (results_lex (p := 4) (u := 5) rfl _ _ _ w.heap.size 31 _ (0, 0) _ rfl (HZ.out.set3 _ _ _) Tryz.underlying31 (by kernel_rfl)) rfl ?_
  rw [HF.out]
  exact .no (0, ⟨#[]⟩, ⟨#[]⟩) rfl rfl (((HB.out.setCell (Nat.le_refl _) _).setCell (Nat.le_refl _) _).setCell (Nat.le_refl _) _)

/-- What stands at the start of a call on a slice that begins with a string. -/
theorem whole_start (w : World) (tt : ByteArray) : Below w.heap.size w ((w.alloc (.cells zeroTermC 31)).alloc (.cells (termC 3 tt ⟨#[]⟩) 31)) ∧ BlockAt ((w.alloc (.cells zeroTermC 31)).alloc (.cells (termC 3 tt ⟨#[]⟩) 31)) w.heap.size zeroTermC 31 ∧ BlockAt ((w.alloc (.cells zeroTermC 31)).alloc (.cells (termC 3 tt ⟨#[]⟩) 31)) (w.heap.size + 1) (termC 3 tt ⟨#[]⟩) 31 := by
  refine ⟨below_next (below_lex _ _) (below_lex _ _), (block_new w zeroTermC _).alloc _, ?_⟩
  have := block_new (w.alloc (.cells zeroTermC 31)) (termC 3 tt ⟨#[]⟩) 31
  rwa [World.size_alloc] at this

set_option maxRecDepth 100000 in
set_option maxHeartbeats 8000000 in
/-- A string and a language. -/
theorem whole_2l (g o cap : Nat) (hcap : 2 ≤ cap) (tt xx : ByteArray) (tk1 tk2 : Int) (e1 e2 e3 e4 : ByteArray) (p1 p2 : Int) (mv : Value) (ht : tt.size ≤ 1000000000000) (hx : xx.size ≤ 1000000000000) (w : World) (he : LexEnv w) (hc : SixAt w g o (symC 3 tt tk1 e1 e2 p1)) (hd : SixAt w g (o + 6) (symC 4 xx tk2 e3 e4 p2)) :
    Calls Tryz.prog 32 #[.slice (some ⟨g, o, none⟩) 2 cap, mv] w (WholeOut (okT (4, tt, xx)) w) := by
  obtain ⟨hB, hZ, hT⟩ := whole_start w tt
  have c0 : w.cell? ⟨g, o, none⟩ = some (.int .i64 3) := hc 0 (by omega)
  have c1 : w.cell? ⟨g, o + 1, none⟩ = some (.string tt) := hc 1 (by omega)
  have d0 : (w.alloc (.cells zeroTermC 31)).cell? ⟨g, o, none⟩ = some (.int .i64 3) := cell_kept_b (below_lex _ _) c0
  have d1 : (w.alloc (.cells zeroTermC 31)).cell? ⟨g, o + 1, none⟩ = some (.string tt) := cell_kept_b (below_lex _ _) c1
  have e60 := cell_kept_b hB (show w.cell? ⟨g, o + 6, none⟩ = some (.int .i64 4) from hd 0 (by omega))
  have e61 := cell_kept_b hB (show w.cell? ⟨g, o + 6 + 1, none⟩ = some (.string xx) from hd 1 (by omega))
  obtain ⟨W0, hW0⟩ : ∃ W0, W0 = ((w.alloc (.cells zeroTermC 31)).alloc (.cells (termC 3 tt ⟨#[]⟩) 31)) := ⟨_, rfl⟩
  rw [← hW0] at hB hZ hT e60 e61
  have HE := Lib.hid he
  have HB := Lib.hid hB
  have HZ := Lib.hid hZ
  have HT := Lib.hid hT
  have HW0 := Lib.hid hW0
  have HX := Lib.hid hx
  have gne : g ≠ w.heap.size + 1 := fun hh => by
    have := (hc 0 (by omega)); rw [hh] at this; simp [World.cell?] at this
  obtain ⟨v, hv⟩ : ∃ v, v = mayS 4 tt xx := ⟨_, rfl⟩
  have HV := Lib.hid hv
  obtain ⟨F, hF⟩ : ∃ F, F = WholeOut (okT (4, tt, xx)) w := ⟨_, rfl⟩
  have HF : Hid (∀ W, Below w.heap.size w W → F (.returned (.tuple #[.agg (termC 4 tt xx), .bool v])) W) := Lib.hid (fun W hW => by rw [hF, hv]; exact okT_out rfl hW)
  rw [← hF]
  clear hB hZ hT he hW0 hc hd hF hv
  go_enter Tryz.func32, Tryz.ntmps32
  go_upto_region 7 with fail
  rw [← HW0.out]
  go_upto_region 9 with fail
  have x0 := HT.out.cell (j := 0) rfl
  have x1 := HT.out.cell (j := 1) rfl
  have x2 := HT.out.cell (j := 2) rfl
  have kf : ∀ j, W0.frozen? ⟨w.heap.size + 1, j, none⟩ = false := fun j => HT.out.free j
  go_region_with fail
  all_goals
    have hB1 : Below w.heap.size w ((W0.setCell ⟨w.heap.size + 1, 0, none⟩ (.int .i64 4)).setCell ⟨w.heap.size + 1, 2, none⟩ (.string xx)).drew := ((HB.out.setCell (Nat.le_succ _) _).setCell (Nat.le_succ _) _).trans (lex_drewN _ _ 1)
    have hZ1 : BlockAt ((W0.setCell ⟨w.heap.size + 1, 0, none⟩ (.int .i64 4)).setCell ⟨w.heap.size + 1, 2, none⟩ (.string xx)).drew w.heap.size zeroTermC 31 := ((HZ.out.other (by omega) _ _).other (by omega) _ _).drew 1
    have hT1 : BlockAt ((W0.setCell ⟨w.heap.size + 1, 0, none⟩ (.int .i64 4)).setCell ⟨w.heap.size + 1, 2, none⟩ (.string xx)).drew (w.heap.size + 1) (termC 4 tt xx) 31 := ((HT.out.set 0 _).set 2 _).drew 1
    clear x0 x1 x2 kf c0 c1 d0 d1 e60 e61 HB HZ HT HW0
    generalize ((W0.setCell ⟨w.heap.size + 1, 0, none⟩ (.int .i64 4)).setCell ⟨w.heap.size + 1, 2, none⟩ (.string xx)).drew = W1 at *
    have HM : Hid (∀ n, Calls Tryz.prog 61 #[.agg (termC 4 tt xx)] (W1.drewN n) fun e w' => e = .returned (.bool v) ∧ Below W1.heap.size W1 w') := Lib.hid (fun n => (may_at 4 tt xx v HV.out.symm ht hx (W1.drewN n) (HE.out.below (hB1.trans ((lex_drewN _ W1 n).mono hB1.size)))).mono fun e w' h => ⟨h.1, (lex_drewN W1.heap.size W1 n).trans h.2⟩)
    have HB := Lib.hid hB1
    have HZ := Lib.hid hZ1
    have HT := Lib.hid hT1
    clear hB1 hZ1 hT1
    go_upto_region 16 with fail
    have x0 := HT.out.cell (j := 0) rfl
    have x1 := HT.out.cell (j := 1) rfl
    have x2 := HT.out.cell (j := 2) rfl
    go_region_with ((go_at_call 61; refine (HM.out _).mono ?_; rintro e y ⟨rfl, hY⟩; have k0 := (HZ.out.kept hY).cell (j := 0) rfl; have k1 := (HZ.out.kept hY).cell (j := 1) rfl; have k2 := (HZ.out.kept hY).cell (j := 2) rfl; have kf : ∀ j, y.frozen? ⟨w.heap.size, j, none⟩ = false := fun j => (HZ.out.kept hY).free j; have z0 := (HT.out.kept hY).cell (j := 0) rfl; have z1 := (HT.out.kept hY).cell (j := 1) rfl; have z2 := (HT.out.kept hY).cell (j := 2) rfl))
    all_goals
      have HB1 := Lib.hid (HB.out.trans (hY.mono HB.out.size))
      have HZ1 := Lib.hid (HZ.out.kept hY)
      clear hY
      go_wp2
      refine bodyPost_ret (results_lex (p := 4) (u := 5) rfl _ _ _ w.heap.size 31 _ (0, 0) _ rfl (HZ1.out.set3 _ _ _) Tryz.underlying31 (by kernel_rfl)) rfl (HF.out _ (((HB1.out.setCell (Nat.le_refl _) _).setCell (Nat.le_refl _) _).setCell (Nat.le_refl _) _))

set_option maxRecDepth 100000 in
set_option maxHeartbeats 8000000 in
/-- A string and a symbol that is no language. -/
theorem whole_2n (g o cap : Nat) (hcap : 2 ≤ cap) (tt xx : ByteArray) (tk1 tk2 : Int) (e1 e2 e3 e4 : ByteArray) (p1 p2 k : Int) (hk : k ≠ 4) (mv : Value) (w : World) (hc : SixAt w g o (symC 3 tt tk1 e1 e2 p1)) (hd : SixAt w g (o + 6) (symC k xx tk2 e3 e4 p2)) :
    Calls Tryz.prog 32 #[.slice (some ⟨g, o, none⟩) 2 cap, mv] w (WholeOut none w) := by
  obtain ⟨hB, hZ, hT⟩ := whole_start w tt
  have c0 : w.cell? ⟨g, o, none⟩ = some (.int .i64 3) := hc 0 (by omega)
  have c1 : w.cell? ⟨g, o + 1, none⟩ = some (.string tt) := hc 1 (by omega)
  have d0 : (w.alloc (.cells zeroTermC 31)).cell? ⟨g, o, none⟩ = some (.int .i64 3) := cell_kept_b (below_lex _ _) c0
  have d1 : (w.alloc (.cells zeroTermC 31)).cell? ⟨g, o + 1, none⟩ = some (.string tt) := cell_kept_b (below_lex _ _) c1
  have e60 := cell_kept_b hB (show w.cell? ⟨g, o + 6, none⟩ = some (.int .i64 k) from hd 0 (by omega))
  obtain ⟨W0, hW0⟩ : ∃ W0, W0 = ((w.alloc (.cells zeroTermC 31)).alloc (.cells (termC 3 tt ⟨#[]⟩) 31)) := ⟨_, rfl⟩
  rw [← hW0] at hB hZ hT e60
  have e4' : (k == 4) = false := by simpa using hk
  have k0 := hZ.cell (j := 0) rfl
  have k1 := hZ.cell (j := 1) rfl
  have k2 := hZ.cell (j := 2) rfl
  have kf : ∀ j, W0.frozen? ⟨w.heap.size, j, none⟩ = false := fun j => hZ.free j
  have HB := Lib.hid hB
  have HZ := Lib.hid hZ
  have HW0 := Lib.hid hW0
  obtain ⟨F, hF⟩ : ∃ F, F = WholeOut none w := ⟨_, rfl⟩
  have HF := Lib.hid hF
  rw [← hF]
  clear hB hZ hT hW0 hc hd hF hk
  go_enter Tryz.func32, Tryz.ntmps32
  go_upto_region 7 with fail
  rw [← HW0.out]
  go_wp2_with fail
  refine bodyPost_ret (results_lex (p := 4) (u := 5) rfl _ _ _ w.heap.size 31 _ (0, 0) _ rfl (HZ.out.set3 _ _ _) Tryz.underlying31 (by kernel_rfl)) rfl ?_
  rw [HF.out]
  exact .no (0, ⟨#[]⟩, ⟨#[]⟩) rfl rfl (((HB.out.setCell (Nat.le_refl _) _).setCell (Nat.le_refl _) _).setCell (Nat.le_refl _) _)

theorem xsd_neq (x : ByteArray) : (x.toList != (⟨#[104, 116, 116, 112, 58, 47, 47, 119, 119, 119, 46, 119, 51, 46, 111, 114, 103, 47, 50, 48, 48, 49, 47, 88, 77, 76, 83, 99, 104, 101, 109, 97, 35, 115, 116, 114, 105, 110, 103]⟩ : ByteArray).toList) = !decide (x = xsdS) ∧ (x.toList == [104, 116, 116, 112, 58, 47, 47, 119, 119, 119, 46, 119, 51, 46, 111, 114, 103, 47, 50, 48, 48, 49, 47, 88, 77, 76, 83, 99, 104, 101, 109, 97, 35, 115, 116, 114, 105, 110, 103]) = decide (x = xsdS) := by
  have hx : xsdS.toList = [104, 116, 116, 112, 58, 47, 47, 119, 119, 119, 46, 119, 51, 46, 111, 114, 103, 47, 50, 48, 48, 49, 47, 88, 77, 76, 83, 99, 104, 101, 109, 97, 35, 115, 116, 114, 105, 110, 103] := by rw [toList_eq]; rfl
  have h1 : (x.toList == xsdS.toList) = decide (x = xsdS) := by
    rw [Bool.eq_iff_iff, beq_iff_eq, decide_eq_true_eq]
    refine ⟨fun h => ?_, fun h => by rw [h]⟩
    rw [toList_eq, toList_eq] at h
    exact ByteArray.ext (Array.ext' h)
  refine ⟨?_, ?_⟩
  · show (!(x.toList == xsdS.toList)) = _
    rw [h1]
  · rw [← hx]
    exact h1

set_option maxRecDepth 100000 in
set_option maxHeartbeats 16000000 in
/-- Three symbols of which the first is a string. -/
theorem whole_3 (g o cap : Nat) (hcap : 3 ≤ cap) (tt xx : ByteArray) (tk1 tk2 : Int) (e1 e2 e3 e4 : ByteArray) (p1 p2 k2 : Int) (k3 : Int) (t3 : ByteArray) (tk3 : Int) (tt3 te3 : ByteArray) (p3 : Int) (mv : Value) (mb : Bool) (hmb : markB k2 (bs xx) (bs ⟨#[94, 94]⟩) = mb) (N3 : Option TermD) (hk1 : ∀ u, N3 = some u → u.2.1.size ≤ 1000000000000 ∧ u.2.2 = noneB) (ht : tt.size ≤ 1000000000000) (w : World) (he : LexEnv w)
    (hc : SixAt w g o (symC 3 tt tk1 e1 e2 p1)) (hd : SixAt w g (o + 6) (symC k2 xx tk2 e3 e4 p2)) (hf : SixAt w g (o + 12) (symC k3 t3 tk3 tt3 te3 p3))
    (hN : ∀ W, Below w.heap.size w W → Calls Tryz.prog 60 #[.agg (symC k3 t3 tk3 tt3 te3 p3), mv] W (WholeOut N3 W)) :
    Calls Tryz.prog 32 #[.slice (some ⟨g, o, none⟩) 3 cap, mv] w (WholeOut (if mb = true then typedR tt N3 else none) w) := by
  obtain ⟨hB, hZ, hT⟩ := whole_start w tt
  have c0 : w.cell? ⟨g, o, none⟩ = some (.int .i64 3) := hc 0 (by omega)
  have c1 : w.cell? ⟨g, o + 1, none⟩ = some (.string tt) := hc 1 (by omega)
  have d0 : (w.alloc (.cells zeroTermC 31)).cell? ⟨g, o, none⟩ = some (.int .i64 3) := cell_kept_b (below_lex _ _) c0
  have d1 : (w.alloc (.cells zeroTermC 31)).cell? ⟨g, o + 1, none⟩ = some (.string tt) := cell_kept_b (below_lex _ _) c1
  have e60 := cell_kept_b hB (show w.cell? ⟨g, o + 6, none⟩ = some (.int .i64 k2) from hd 0 (by omega))
  have e61 := cell_kept_b hB (show w.cell? ⟨g, o + 6 + 1, none⟩ = some (.string xx) from hd 1 (by omega))
  have e62 := cell_kept_b hB (show w.cell? ⟨g, o + 6 + 2, none⟩ = some (.int .i64 tk2) from hd 2 (by omega))
  have e63 := cell_kept_b hB (show w.cell? ⟨g, o + 6 + 3, none⟩ = some (.string e3) from hd 3 (by omega))
  have e64 := cell_kept_b hB (show w.cell? ⟨g, o + 6 + 4, none⟩ = some (.string e4) from hd 4 (by omega))
  have e65 := cell_kept_b hB (show w.cell? ⟨g, o + 6 + 5, none⟩ = some (.int .i64 p2) from hd 5 (by omega))
  have HFs := Lib.hid (hf.below hB)
  obtain ⟨W0, hW0⟩ : ∃ W0, W0 = ((w.alloc (.cells zeroTermC 31)).alloc (.cells (termC 3 tt ⟨#[]⟩) 31)) := ⟨_, rfl⟩
  rw [← hW0] at hB hZ hT e60 e61 e62 e63 e64 e65 HFs
  have HE := Lib.hid he
  have HB := Lib.hid hB
  have HZ := Lib.hid hZ
  have HT := Lib.hid hT
  have HW0 := Lib.hid hW0
  have HMk := Lib.hid (markIs_at k2 xx tk2 e3 e4 p2 ⟨#[94, 94]⟩ mb hmb W0)
  have HN := Lib.hid hN
  obtain ⟨R, hR⟩ : ∃ R, R = (if mb = true then typedR tt N3 else none) := ⟨_, rfl⟩
  rw [← hR]
  have HR := Lib.hid hR
  have HK1 := Lib.hid hk1
  clear hB hZ hT he hW0 hc hd hf hN hmb hR hk1
  cases mb with
  | false =>
    have HFn : Hid (R = none) := Lib.hid (by rw [HR.out, if_neg (by decide)])
    obtain ⟨F, hF⟩ : ∃ F, F = WholeOut R w := ⟨_, rfl⟩
    have HF := Lib.hid hF
    rw [← hF]
    clear hF HR
    go_enter Tryz.func32, Tryz.ntmps32
    go_upto_region 7 with fail
    rw [← HW0.out]
    go_wp2_with (go_at_call 14; refine HMk.out.mono ?_; rintro e y ⟨rfl, hY⟩; have k0 := (HZ.out.kept hY).cell (j := 0) rfl; have k1 := (HZ.out.kept hY).cell (j := 1) rfl; have k2 := (HZ.out.kept hY).cell (j := 2) rfl; have kf : ∀ j, y.frozen? ⟨w.heap.size, j, none⟩ = false := fun j => (HZ.out.kept hY).free j)
    have HB1 := Lib.hid (HB.out.trans (hY.mono HB.out.size))
    have HZ1 := Lib.hid (HZ.out.kept hY)
    refine bodyPost_ret (results_lex (p := 4) (u := 5) rfl _ _ _ w.heap.size 31 _ (0, 0) _ rfl (HZ1.out.set3 _ _ _) Tryz.underlying31 (by kernel_rfl)) rfl ?_
    rw [HF.out, HFn.out]
    exact .no (0, ⟨#[]⟩, ⟨#[]⟩) rfl rfl (((HB1.out.setCell (Nat.le_refl _) _).setCell (Nat.le_refl _) _).setCell (Nat.le_refl _) _)
  | true =>
    have HR' : Hid (R = typedR tt N3) := Lib.hid (by rw [HR.out, if_pos rfl])
    obtain ⟨F, hF⟩ : ∃ F, F = WholeOut R w := ⟨_, rfl⟩
    have HF := Lib.hid hF
    rw [← hF]
    clear hF HR
    go_enter Tryz.func32, Tryz.ntmps32
    go_upto_region 7 with fail
    rw [← HW0.out]
    go_upto_region 11 with (go_at_call 14; refine HMk.out.mono ?_; rintro e y ⟨rfl, hY⟩)
    have hB1 := HB.out.trans (hY.mono HB.out.size)
    have HZ1 := Lib.hid (HZ.out.kept hY)
    have HT1 := Lib.hid (HT.out.kept hY)
    have hF1 := HFs.out.below hY
    clear e60 e61 e62 e63 e64 e65 c0 c1 d0 d1 HFs hY HZ HT HB HW0
    have x0 : y.cell? ⟨g, o + 12, none⟩ = some (.int .i64 k3) := hF1 0 (by omega)
    have x1 : y.cell? ⟨g, o + 12 + 1, none⟩ = some (.string t3) := hF1 1 (by omega)
    have x2 : y.cell? ⟨g, o + 12 + 2, none⟩ = some (.int .i64 tk3) := hF1 2 (by omega)
    have x3' : y.cell? ⟨g, o + 12 + 3, none⟩ = some (.string tt3) := hF1 3 (by omega)
    have x4 : y.cell? ⟨g, o + 12 + 4, none⟩ = some (.string te3) := hF1 4 (by omega)
    have x5 : y.cell? ⟨g, o + 12 + 5, none⟩ = some (.int .i64 p3) := hF1 5 (by omega)
    have HNy := Lib.hid (HN.out y hB1)
    have HB1 := Lib.hid hB1
    clear hF1 hB1
    go_upto_region 12 with (go_at_call 60; refine HNy.out.mono ?_; rintro e z ⟨t, b, rfl, hV, hyes, hno⟩)
    have hB2 : Below w.heap.size w (z.alloc (.cells #[.int .i64 t.1, .string t.2.1, .string t.2.2] 31)) := below_next (HB1.out.trans (hV.mono HB1.out.size)) (below_lex _ _)
    have hZ2 : BlockAt (z.alloc (.cells #[.int .i64 t.1, .string t.2.1, .string t.2.2] 31)) w.heap.size zeroTermC 31 := (HZ1.out.kept hV).alloc _
    have hT2 : BlockAt (z.alloc (.cells #[.int .i64 t.1, .string t.2.1, .string t.2.2] 31)) (w.heap.size + 1) (termC 3 tt ⟨#[]⟩) 31 := (HT1.out.kept hV).alloc _
    have hN2 : BlockAt (z.alloc (.cells #[.int .i64 t.1, .string t.2.1, .string t.2.2] 31)) z.heap.size #[.int .i64 t.1, .string t.2.1, .string t.2.2] 31 := block_new _ _ _
    clear x0 x1 x2 x3' x4 x5 hV HB1 HZ1 HT1 HNy HN HMk
    generalize z.alloc (.cells #[.int .i64 t.1, .string t.2.1, .string t.2.2] 31) = W2 at *
    have n0 := hN2.cell (j := 0) rfl
    have n1 := hN2.cell (j := 1) rfl
    have HB2 := Lib.hid hB2
    have HZ2 := Lib.hid hZ2
    have HT2 := Lib.hid hT2
    have HYes := Lib.hid hyes
    have HNo := Lib.hid hno
    clear hB2 hZ2 hT2 hN2 hyes hno
    by_cases hbk : b = true ∧ t.1 = 1
    · obtain ⟨rfl, ht1⟩ := hbk
      obtain ⟨k, txt, ex⟩ := t
      have hNs : N3 = some (1, txt, noneB) := by
        cases hN3 : N3 with
        | none => have := HNo.out hN3; cases this
        | some u =>
          obtain ⟨_, hu⟩ := HYes.out u hN3
          obtain ⟨_, h2⟩ := HK1.out u hN3
          rw [← hu] at h2
          rw [← hu]
          simp only at h2 ht1
          rw [h2, ht1]
      have hsz : txt.size ≤ 1000000000000 := (HK1.out _ hNs).1
      simp only at ht1 n0 n1
      subst ht1
      obtain ⟨nx1, nx2⟩ := xsd_neq txt
      have HRx : Hid (R = if txt = xsdS then okT (3, tt, noneB) else okT (5, tt, txt)) := Lib.hid (by rw [HR'.out, hNs]; rfl)
      clear hNs HYes HNo HK1 HR'
      by_cases hxs : txt = xsdS
      · rw [decide_eq_true hxs] at nx1 nx2
        have HRy : Hid (R = okT (3, tt, noneB)) := Lib.hid (by rw [HRx.out, if_pos hxs])
        clear HRx hxs
        go_upto_region 16 with fail
        have HM : Hid (∀ n, Calls Tryz.prog 61 #[.agg (termC 3 tt ⟨#[]⟩)] (W2.drewN n) fun e w' => e = .returned (.bool (mayS 3 tt ⟨#[]⟩)) ∧ Below W2.heap.size W2 w') := Lib.hid (fun n => (may_at 3 tt ⟨#[]⟩ _ rfl ht (by decide) (W2.drewN n) (HE.out.below (HB2.out.trans ((lex_drewN _ W2 n).mono HB2.out.size)))).mono fun e w' h => ⟨h.1, (lex_drewN W2.heap.size W2 n).trans h.2⟩)
        have x0 := HT2.out.cell (j := 0) rfl
        have x1 := HT2.out.cell (j := 1) rfl
        have x2 := HT2.out.cell (j := 2) rfl
        go_region_with ((go_at_call 61; refine (HM.out _).mono ?_; rintro e y ⟨rfl, hY⟩; have k0 := (HZ2.out.kept hY).cell (j := 0) rfl; have k1 := (HZ2.out.kept hY).cell (j := 1) rfl; have k2 := (HZ2.out.kept hY).cell (j := 2) rfl; have kf : ∀ j, y.frozen? ⟨w.heap.size, j, none⟩ = false := fun j => (HZ2.out.kept hY).free j; have z0 := (HT2.out.kept hY).cell (j := 0) rfl; have z1 := (HT2.out.kept hY).cell (j := 1) rfl; have z2 := (HT2.out.kept hY).cell (j := 2) rfl))
        all_goals
          have HB1 := Lib.hid (HB2.out.trans (hY.mono HB2.out.size))
          have HZ1 := Lib.hid (HZ2.out.kept hY)
          clear hY
          go_wp2
          refine bodyPost_ret (results_lex (p := 4) (u := 5) rfl _ _ _ w.heap.size 31 _ (0, 0) _ rfl (HZ1.out.set3 _ _ _) Tryz.underlying31 (by kernel_rfl)) rfl ?_
          rw [HF.out, HRy.out]
          exact okT_out rfl (((HB1.out.setCell (Nat.le_refl _) _).setCell (Nat.le_refl _) _).setCell (Nat.le_refl _) _)
      · rw [decide_eq_false hxs] at nx1 nx2
        have HRy : Hid (R = okT (5, tt, txt)) := Lib.hid (by rw [HRx.out, if_neg hxs])
        clear HRx hxs
        have x0 := HT2.out.cell (j := 0) rfl
        have x1 := HT2.out.cell (j := 1) rfl
        have x2 := HT2.out.cell (j := 2) rfl
        have kf : ∀ j, W2.frozen? ⟨w.heap.size + 1, j, none⟩ = false := fun j => HT2.out.free j
        go_upto_region 15 with fail
        go_region_with fail
        all_goals
          have hB1 : Below w.heap.size w ((W2.setCell ⟨w.heap.size + 1, 0, none⟩ (.int .i64 5)).setCell ⟨w.heap.size + 1, 2, none⟩ (.string txt)).drew := ((HB2.out.setCell (Nat.le_succ _) _).setCell (Nat.le_succ _) _).trans (lex_drewN _ _ 1)
          have hZ1 : BlockAt ((W2.setCell ⟨w.heap.size + 1, 0, none⟩ (.int .i64 5)).setCell ⟨w.heap.size + 1, 2, none⟩ (.string txt)).drew w.heap.size zeroTermC 31 := ((HZ2.out.other (by omega) _ _).other (by omega) _ _).drew 1
          have hT1 : BlockAt ((W2.setCell ⟨w.heap.size + 1, 0, none⟩ (.int .i64 5)).setCell ⟨w.heap.size + 1, 2, none⟩ (.string txt)).drew (w.heap.size + 1) (termC 5 tt txt) 31 := ((HT2.out.set 0 _).set 2 _).drew 1
          clear x0 x1 x2 kf n0 n1 nx1 nx2 HB2 HZ2 HT2
          generalize ((W2.setCell ⟨w.heap.size + 1, 0, none⟩ (.int .i64 5)).setCell ⟨w.heap.size + 1, 2, none⟩ (.string txt)).drew = W1 at *
          have HM : Hid (∀ n, Calls Tryz.prog 61 #[.agg (termC 5 tt txt)] (W1.drewN n) fun e w' => e = .returned (.bool (mayS 5 tt txt)) ∧ Below W1.heap.size W1 w') := Lib.hid (fun n => (may_at 5 tt txt _ rfl ht hsz (W1.drewN n) (HE.out.below (hB1.trans ((lex_drewN _ W1 n).mono hB1.size)))).mono fun e w' h => ⟨h.1, (lex_drewN W1.heap.size W1 n).trans h.2⟩)
          have HB := Lib.hid hB1
          have HZ := Lib.hid hZ1
          have HT := Lib.hid hT1
          clear hB1 hZ1 hT1
          go_upto_region 16 with fail
          have x0 := HT.out.cell (j := 0) rfl
          have x1 := HT.out.cell (j := 1) rfl
          have x2 := HT.out.cell (j := 2) rfl
          go_region_with ((go_at_call 61; refine (HM.out _).mono ?_; rintro e y ⟨rfl, hY⟩; have k0 := (HZ.out.kept hY).cell (j := 0) rfl; have k1 := (HZ.out.kept hY).cell (j := 1) rfl; have k2 := (HZ.out.kept hY).cell (j := 2) rfl; have kf : ∀ j, y.frozen? ⟨w.heap.size, j, none⟩ = false := fun j => (HZ.out.kept hY).free j; have z0 := (HT.out.kept hY).cell (j := 0) rfl; have z1 := (HT.out.kept hY).cell (j := 1) rfl; have z2 := (HT.out.kept hY).cell (j := 2) rfl))
          all_goals
            have HB1 := Lib.hid (HB.out.trans (hY.mono HB.out.size))
            have HZ1 := Lib.hid (HZ.out.kept hY)
            clear hY
            go_wp2
            refine bodyPost_ret (results_lex (p := 4) (u := 5) rfl _ _ _ w.heap.size 31 _ (0, 0) _ rfl (HZ1.out.set3 _ _ _) Tryz.underlying31 (by kernel_rfl)) rfl ?_
            rw [HF.out, HRy.out]
            exact okT_out rfl (((HB1.out.setCell (Nat.le_refl _) _).setCell (Nat.le_refl _) _).setCell (Nat.le_refl _) _)
    · have HRn : Hid (R = none) := Lib.hid (by
        rw [HR'.out]
        cases hN3 : N3 with
        | none => rfl
        | some u =>
          obtain ⟨hb, hu⟩ := HYes.out u hN3
          have hk : u.1 ≠ 1 := fun e => hbk ⟨hb, by rw [hu]; exact e⟩
          show (if u.1 = 1 then _ else none) = none
          rw [if_neg hk])
      clear HYes HNo HK1 HR'
      have k0 := HZ2.out.cell (j := 0) rfl
      have k1 := HZ2.out.cell (j := 1) rfl
      have k2 := HZ2.out.cell (j := 2) rfl
      have kf : ∀ j, W2.frozen? ⟨w.heap.size, j, none⟩ = false := fun j => HZ2.out.free j
      cases b with
      | false =>
        clear hbk
        go_wp2_with fail
        refine bodyPost_ret (results_lex (p := 4) (u := 5) rfl _ _ _ w.heap.size 31 _ (0, 0) _ rfl (HZ2.out.set3 _ _ _) Tryz.underlying31 (by kernel_rfl)) rfl ?_
        rw [HF.out, HRn.out]
        exact .no (0, ⟨#[]⟩, ⟨#[]⟩) rfl rfl (((HB2.out.setCell (Nat.le_refl _) _).setCell (Nat.le_refl _) _).setCell (Nat.le_refl _) _)
      | true =>
        have hk1 : (t.1 != 1) = true := by
          rw [bne_iff_ne]
          exact fun e => hbk ⟨rfl, e⟩
        clear hbk
        go_wp2_with fail
        refine bodyPost_ret (results_lex (p := 4) (u := 5) rfl _ _ _ w.heap.size 31 _ (0, 0) _ rfl (HZ2.out.set3 _ _ _) Tryz.underlying31 (by kernel_rfl)) rfl ?_
        rw [HF.out, HRn.out]
        exact .no (0, ⟨#[]⟩, ⟨#[]⟩) rfl rfl (((HB2.out.setCell (Nat.le_refl _) _).setCell (Nat.le_refl _) _).setCell (Nat.le_refl _) _)
end Go.Proofs.YtachijkjcbajmaaGreatDoor
/-
  THE CONTRACT OF lex.Read, OF ANY SYMBOLS, WHEREVER THE SLICE BEGINS.
-/

namespace Go.Proofs.YtachijkjcbajmaaGreatDoor
open Go.RowKit
open Utf Term Lex
set_option linter.unusedVariables false
set_option linter.unusedSimpArgs false

/-- Symbols' cells in a row. -/
def RowS (W : World) (g o : Nat) (L : List Sym) : Prop := ∀ j u, (flatS L)[j]? = some u → W.cell? ⟨g, o + j, none⟩ = some u
theorem RowS.below {W W' : World} {g o : Nat} {L : List Sym} (h : RowS W g o L) (k : Below W.heap.size W W') : RowS W' g o L := fun j u e => cell_kept_b k (h j u e)
theorem RowS.take {W : World} {g o : Nat} {L : List Sym} (h : RowS W g o L) (n : Nat) : RowS W g o (L.take n) := fun j u e => by
  refine h j u ?_
  have e2 : flatS L = flatS (L.take n) ++ flatS (L.drop n) := by rw [← flatS_append, List.take_append_drop]
  rw [e2, List.getElem?_append_left (List.getElem?_eq_some_iff.1 e).1]
  exact e
theorem RowS.drop {W : World} {g o : Nat} {L : List Sym} (h : RowS W g o L) {n : Nat} (hn : n ≤ L.length) : RowS W g (o + n * 6) (L.drop n) := fun j u e => by
  have e2 : flatS L = flatS (L.take n) ++ flatS (L.drop n) := by rw [← flatS_append, List.take_append_drop]
  have hl : (flatS (L.take n)).length = n * 6 := by rw [flatS_length, List.length_take, Nat.min_eq_left hn]
  have := h (n * 6 + j) u (by rw [e2, List.getElem?_append_right (by omega), hl, Nat.add_sub_cancel_left]; exact e)
  rwa [← Nat.add_assoc] at this
theorem RowS.six {W : World} {g o : Nat} {L : List Sym} (h : RowS W g o L) {i : Nat} {x : Sym} (hx : L[i]? = some x) : SixAt W g (o + i * 6) (symC x.kind (strOfNums x.text) x.tk (strOfNums x.tt) (strOfNums x.te) x.place) := by
  intro j hj
  have := h (i * 6 + j) ((symA x).toList.getD j undef) (by rw [flatS_get L i j x hx hj, List.getD_eq_getElem?_getD, List.getElem?_eq_getElem (by rw [symA_length]; omega)]; rfl)
  rw [← Nat.add_assoc] at this
  rw [this]
  match j, hj with
  | 0, _ => rfl
  | 1, _ => rfl
  | 2, _ => rfl
  | 3, _ => rfl
  | 4, _ => rfl
  | 5, _ => rfl

/-- What named tells of good symbols. -/
def NamedC (P : ByteArray → Option ByteArray) (mv : Value) (N : Nat) (w : World) : Prop :=
  ∀ x, GoodS N x → ∀ W, Below w.heap.size w W → Calls Tryz.prog 60 #[.agg (symC x.kind (strOfNums x.text) x.tk (strOfNums x.tt) (strOfNums x.te) x.place), mv] W (WholeOut (namedS P x) W)
theorem NamedC.below {P : ByteArray → Option ByteArray} {mv : Value} {N : Nat} {w u : World} (h : NamedC P mv N w) (k : Below w.heap.size w u) : NamedC P mv N u :=
  fun x hx W hW => h x hx W (k.trans (hW.mono k.size))
theorem named_any (P : ByteArray → Option ByteArray) (mv : Value) (N : Nat) (hN : N ≤ 1000000000) (w : World) (he : LexEnv w) (hm : ∀ W, Below w.heap.size w W → MapS mv P W) (hP : ∀ a b, P a = some b → b.size ≤ 1000000000) : NamedC P mv N w := by
  intro x hx W hW
  have hxt : (strOfNums x.tt).size ≤ 1000000000000 := by rw [strNums_size]; have := hx.ltt; omega
  have heW := he.below hW
  by_cases h1 : x.kind = 1
  · obtain ⟨k1, k2, k3⟩ := hx.iri h1
    have hn : namedS P x = some (1, S x.tt, noneB) := by unfold namedS; rw [if_pos h1]
    rw [hn, h1, k1, k2]
    exact (named_iri (strOfNums x.text) (strOfNums x.tt) ⟨#[]⟩ x.place mv true k3 hxt (by decide) W heW).mono fun e w' h => .yes rfl h.1 h.2
  by_cases h2 : x.kind = 2
  · obtain ⟨k1, k2, k3⟩ := hx.blank h2
    have hn : namedS P x = some (2, S x.tt, noneB) := by unfold namedS; rw [if_neg h1, if_pos h2]
    rw [hn, h2, k1, k2]
    exact (named_blank (strOfNums x.text) (strOfNums x.tt) ⟨#[]⟩ x.place mv true k3 hxt (by decide) W heW).mono fun e w' h => .yes rfl h.1 h.2
  by_cases h7 : x.kind = 7
  · have := named_name P x N h7 hx hN mv W heW (fun U hU => hm U (hW.trans (hU.mono hW.size))) hP
    rw [h7]
    exact this
  · have hn : namedS P x = none := by unfold namedS; rw [if_neg h1, if_neg h2, if_neg h7]
    rw [hn]
    exact (named_other x.kind _ _ _ _ _ mv (by omega) (by omega) (by omega) W).mono fun e w' h => .no (0, ⟨#[]⟩, ⟨#[]⟩) rfl h.1 h.2
theorem namedS_small {P : ByteArray → Option ByteArray} {N : Nat} (hN : N ≤ 1000000000) (hP : ∀ a b, P a = some b → b.size ≤ 1000000000) {x : Sym} (hx : GoodS N x) : ∀ u, namedS P x = some u → u.2.1.size ≤ 1000000000000 ∧ u.2.2 = noneB := by
  intro u hu
  have ht : (S x.tt).size ≤ 1000000000000 := by show (strOfNums x.tt).size ≤ _; rw [strNums_size]; have := hx.ltt; omega
  have hl : (S (localN x.text)).size ≤ 1000000000 := by show (strOfNums (localN x.text)).size ≤ _; rw [strNums_size]; have := localN_len x.text; have := hx.lt; omega
  unfold namedS at hu
  split at hu
  · cases hu; exact ⟨ht, rfl⟩
  · split at hu
    · cases hu; exact ⟨ht, rfl⟩
    · split at hu
      · split at hu
        · cases hu
        · rename_i b hb
          split at hu
          · cases hu
            refine ⟨?_, rfl⟩
            show (b ++ S (localN x.text)).size ≤ _
            rw [ByteArray.size_append]
            have := hP _ b hb
            omega
          · cases hu
      · cases hu

theorem whole_any (P : ByteArray → Option ByteArray) (mv : Value) (N : Nat) (hN : N ≤ 1000000000) (hP : ∀ a b, P a = some b → b.size ≤ 1000000000) (g o cap : Nat) (L : List Sym) (h1 : 1 ≤ L.length) (h3 : L.length ≤ 3) (hcap : L.length ≤ cap) (hg : ∀ x ∈ L, GoodS N x)
    (w : World) (he : LexEnv w) (hn : NamedC P mv N w) (hr : RowS w g o L) :
    Calls Tryz.prog 32 #[.slice (some ⟨g, o, none⟩) L.length cap, mv] w (WholeOut (wholeS P L) w) := by
  have hz : ∀ x ∈ L, ∀ l, l = x.text ∨ l = x.tt → (strOfNums l).size ≤ 1000000000000 := fun x hx l hl => by
    rw [strNums_size]
    rcases hl with rfl | rfl
    · have := (hg x hx).lt; omega
    · have := (hg x hx).ltt; omega
  match L, h1, h3 with
  | [x], _, _ =>
    have s0 := hr.six (i := 0) (x := x) rfl
    rw [Nat.zero_mul, Nat.add_zero] at s0
    have hx := hg x (by simp)
    by_cases hk : x.kind = 3
    · have e : wholeS P [x] = okT (3, S x.text, noneB) := by rw [wholeS, if_pos hk]
      rw [e]
      rw [hk] at s0
      exact whole_1s g o cap hcap _ _ _ _ _ mv (hz x (by simp) _ (.inl rfl)) w he s0
    · have e : wholeS P [x] = namedS P x := by rw [wholeS, if_neg hk]
      rw [e]
      exact whole_1 g o cap hcap x.kind (by omega) _ _ _ _ _ mv _ w s0 (fun W hW => hn x hx W hW)
  | [x, y], _, _ =>
    have s0 := hr.six (i := 0) (x := x) rfl
    have s1 := hr.six (i := 1) (x := y) rfl
    rw [Nat.zero_mul, Nat.add_zero] at s0
    rw [Nat.one_mul] at s1
    by_cases hk : x.kind = 3
    · rw [hk] at s0
      by_cases hk4 : y.kind = 4
      · have e : wholeS P [x, y] = okT (4, S x.text, S y.text) := by rw [wholeS, if_pos ⟨hk, hk4⟩]
        rw [e]
        rw [hk4] at s1
        exact whole_2l g o cap hcap _ _ _ _ _ _ _ _ _ _ mv (hz x (by simp) _ (.inl rfl)) (hz y (by simp) _ (.inl rfl)) w he s0 s1
      · have e : wholeS P [x, y] = none := by rw [wholeS, if_neg (fun h => hk4 h.2)]
        rw [e]
        exact whole_2n g o cap hcap _ _ _ _ _ _ _ _ _ _ y.kind (by omega) mv w s0 s1
    · have e : wholeS P [x, y] = none := by rw [wholeS, if_neg (fun h => hk h.1)]
      rw [e]
      exact whole_n g o 2 cap (Nat.le_refl _) (by decide) hcap x.kind (by omega) _ _ _ _ _ mv w s0
  | [x, y, z], _, _ =>
    have s0 := hr.six (i := 0) (x := x) rfl
    have s1 := hr.six (i := 1) (x := y) rfl
    have s2 := hr.six (i := 2) (x := z) rfl
    rw [Nat.zero_mul, Nat.add_zero] at s0
    rw [Nat.one_mul] at s1
    by_cases hk : x.kind = 3
    · rw [hk] at s0
      have hy := hg y (by simp)
      have hmb : markB y.kind (bs (strOfNums y.text)) (bs ⟨#[94, 94]⟩) = decide (y.kind = 8 ∧ y.text = typeMarkL) := by
        unfold markB
        rw [bs_strOfNums hy.bt, show bs ⟨#[94, 94]⟩ = typeMarkL from rfl, Bool.eq_iff_iff]
        simp only [Bool.and_eq_true, beq_iff_eq, decide_eq_true_eq]
        constructor
        · rintro ⟨h1, h2⟩; exact ⟨by omega, h2⟩
        · rintro ⟨h1, h2⟩; exact ⟨by omega, h2⟩
      have e : wholeS P [x, y, z] = if decide (y.kind = 8 ∧ y.text = typeMarkL) = true then typedR (S x.text) (namedS P z) else none := by
        rw [wholeS]
        by_cases h : y.kind = 8 ∧ y.text = typeMarkL
        · rw [if_pos ⟨hk, h⟩, if_pos (decide_eq_true h)]
        · rw [if_neg (fun k => h k.2), if_neg (by rw [decide_eq_false h]; decide)]
      rw [e]
      exact whole_3 g o cap hcap _ _ _ _ _ _ _ _ _ _ _ _ _ _ _ _ _ mv _ hmb (namedS P z) (namedS_small hN hP (hg z (by simp))) (hz x (by simp) _ (.inl rfl)) w he s0 s1 s2 (fun W hW => hn z (hg z (by simp)) W hW)
    · have e : wholeS P [x, y, z] = none := by rw [wholeS, if_neg (fun h => hk h.1)]
      rw [e]
      exact whole_n g o 3 cap (by decide) (Nat.le_refl _) hcap x.kind (by omega) _ _ _ _ _ mv w s0

/-- The first of the lengths k, k - 1 .. 1. -/
def downS (P : ByteArray → Option ByteArray) (L : List Sym) : Nat → Option (TermD × Nat)
  | 0 => none
  | k + 1 => match tryS P L (k + 1) with
    | some r => some r
    | none => downS P L k
theorem try_long {P : ByteArray → Option ByteArray} {L : List Sym} {n : Nat} (h : L.length < n) : tryS P L n = none := by unfold tryS; rw [if_neg (by omega)]
theorem down_read (P : ByteArray → Option ByteArray) (L : List Sym) : downS P L (min L.length 3) = readS P L := by
  have h3 : downS P L 3 = readS P L := by
    unfold readS
    rw [downS, downS, downS]
    cases tryS P L 3 with
    | some r => rfl
    | none =>
      simp only
      cases tryS P L 2 with
      | some r => rfl
      | none =>
        simp only
        cases tryS P L 1 <;> rfl
  rw [← h3]
  by_cases c3 : 3 ≤ L.length
  · rw [Nat.min_eq_right c3]
  · rw [Nat.min_eq_left (by omega)]
    match hl : L.length, c3 with
    | 0, _ => simp only [downS, try_long (P := P) (show L.length < 0 + 1 by omega), try_long (P := P) (show L.length < 1 + 1 by omega), try_long (P := P) (show L.length < 2 + 1 by omega)]
    | 1, _ =>
      conv => rhs; rw [downS, downS]
      simp only [try_long (P := P) (show L.length < 1 + 1 by omega), try_long (P := P) (show L.length < 2 + 1 by omega)]
    | 2, _ =>
      conv => rhs; rw [downS]
      simp only [try_long (P := P) (show L.length < 2 + 1 by omega)]
    | n + 3, h => omega

/-- What Read answers. -/
def ReadOut (r : Option (TermD × Nat)) (w : World) (e : Ending) (w' : World) : Prop :=
  (match r with
  | some (t, n) => e = .returned (.tuple #[termD t, .int .i64 n, .int .i64 0])
  | none => e = .returned (.tuple #[termD (0, ⟨#[]⟩, ⟨#[]⟩), .int .i64 0, .int .i64 4])) ∧ Below w.heap.size w w'

/-- A slice of symbols, wherever it begins. -/
def SlA (W : World) (v : Value) (L : List Sym) : Prop :=
  (v = .slice none 0 0 ∧ L = []) ∨ ∃ g o cap, v = .slice (some ⟨g, o, none⟩) L.length cap ∧ L.length ≤ cap ∧ cap ≤ maxLen ∧ RowS W g o L
theorem SlA.below {W W' : World} {v : Value} {L : List Sym} (h : SlA W v L) (k : Below W.heap.size W W') : SlA W' v L := by
  rcases h with h | ⟨g, o, cap, h1, h2, h3, h4⟩
  · exact .inl h
  · exact .inr ⟨g, o, cap, h1, h2, h3, h4.below k⟩
theorem SlA.of {W : World} {v : Value} {L : List Sym} (h : SliceS W v L) : SlA W v L := by
  rcases h with h | ⟨g, cap, h1, h2, h3, h4⟩
  · exact .inl h
  · exact .inr ⟨g, 0, cap, h1, h2, h3, fun j u e => by rw [Nat.zero_add]; exact h4 j u e⟩
theorem SlA.nil (W : World) (g o cap : Nat) (hc : cap ≤ maxLen) : SlA W (.slice (some ⟨g, o, none⟩) 0 cap) [] := .inr ⟨g, o, cap, rfl, Nat.zero_le _, hc, fun j u e => by simp [flatS] at e⟩

set_option maxRecDepth 100000 in
set_option maxHeartbeats 8000000 in
theorem read_none (p : Option Addr) (cap : Nat) (mv : Value) (w : World) :
    Calls Tryz.prog 10 #[.slice p 0 cap, mv] w (ReadOut none w) := by
  have hB : Below w.heap.size w (w.alloc (.cells zeroTermC 31)) := below_lex _ _
  have hZ : BlockAt (w.alloc (.cells zeroTermC 31)) w.heap.size zeroTermC 31 := block_new _ _ _
  obtain ⟨W0, hW0⟩ : ∃ W0, W0 = w.alloc (.cells zeroTermC 31) := ⟨_, rfl⟩
  rw [← hW0] at hB hZ
  have k0 := hZ.cell (j := 0) rfl
  have k1 := hZ.cell (j := 1) rfl
  have k2 := hZ.cell (j := 2) rfl
  have kf : ∀ j, W0.frozen? ⟨w.heap.size, j, none⟩ = false := fun j => hZ.free j
  have HB := Lib.hid hB
  have HZ := Lib.hid hZ
  have HW0 := Lib.hid hW0
  clear hB hZ hW0
  go_enter Tryz.func10, Tryz.ntmps10
  go_upto_region 1 with fail
  rw [← HW0.out]
  go_wp2_with fail
  refine wp_loop_rounds 1 ?_
  rw [rounds_succ]
  go_wp2_with fail
  exact bodyPost_ret (results_read rfl _ _ w.heap.size _ _ _ rfl (HZ.out.set3 _ _ _)) rfl ⟨rfl, ((HB.out.setCell (Nat.le_refl _) _).setCell (Nat.le_refl _) _).setCell (Nat.le_refl _) _⟩

set_option maxRecDepth 100000 in
set_option maxHeartbeats 8000000 in
theorem read_some (P : ByteArray → Option ByteArray) (mv : Value) (N : Nat) (hN : N ≤ 1000000000) (hP : ∀ a b, P a = some b → b.size ≤ 1000000000) (g o cap : Nat) (L : List Sym) (hcap : L.length ≤ cap) (hcm : cap ≤ maxLen) (hg : ∀ x ∈ L, GoodS N x)
    (w : World) (he : LexEnv w) (hn : NamedC P mv N w) (hr : RowS w g o L) :
    Calls Tryz.prog 10 #[.slice (some ⟨g, o, none⟩) L.length cap, mv] w (ReadOut (readS P L) w) := by
  have hB : Below w.heap.size w (w.alloc (.cells zeroTermC 31)) := below_lex _ _
  have hZ : BlockAt (w.alloc (.cells zeroTermC 31)) w.heap.size zeroTermC 31 := block_new _ _ _
  obtain ⟨W0, hW0⟩ : ∃ W0, W0 = w.alloc (.cells zeroTermC 31) := ⟨_, rfl⟩
  rw [← hW0] at hB hZ
  have HC : Hid (∀ k, 1 ≤ k → k ≤ 3 → k ≤ L.length → ∀ W, Below w.heap.size w W → Calls Tryz.prog 32 #[.slice (some ⟨g, o, none⟩) k cap, mv] W (WholeOut (wholeS P (L.take k)) W)) := Lib.hid (fun k k1 k3 kl W hW => by
    have hl : (L.take k).length = k := by rw [List.length_take]; omega
    have := whole_any P mv N hN hP g o cap (L.take k) (by omega) (by omega) (by omega) (fun x hx => hg x (List.mem_of_mem_take hx)) W (he.below hW) (hn.below hW) ((hr.below hW).take k)
    rwa [hl] at this)
  have HRd : Hid (readS P L = downS P L (min L.length 3)) := Lib.hid (down_read P L).symm
  have HTr : Hid (∀ k, k ≤ L.length → tryS P L k = (wholeS P (L.take k)).map (fun t => (t, k))) := Lib.hid (fun k hk => by unfold tryS; rw [if_pos hk])
  have HB := Lib.hid hB
  have HZ := Lib.hid hZ
  have HW0 := Lib.hid hW0
  obtain ⟨n, hnl⟩ : ∃ n, n = L.length := ⟨_, rfl⟩
  rw [← hnl] at HC HTr HRd hcap ⊢
  obtain ⟨m, hm⟩ : ∃ m, m = min n 3 := ⟨_, rfl⟩
  have hm3 : m ≤ 3 := by omega
  have hmn : m ≤ n := by omega
  have hmi : min (n : Int) 3 = (m : Int) := by omega
  rw [← hm] at HRd
  obtain ⟨F, hF⟩ : ∃ F, F = ReadOut (readS P L) w := ⟨_, rfl⟩
  have HF := Lib.hid hF
  rw [← hF]
  clear hB hZ hW0 hnl hm hF he hn hr hg hP
  go_enter Tryz.func10, Tryz.ntmps10
  go_wp2_with fail
  rw [← HW0.out]
  go_loopg [7] m (fun gg i wr => ∃ k : Nat, k ≤ m ∧ k ≤ gg ∧ i = .int .i64 k ∧ readS P L = downS P L k ∧ Below w.heap.size w wr ∧ BlockAt wr w.heap.size zeroTermC 31)
  case atStart => exact ⟨m, Nat.le_refl _, Nat.le_refl _, rfl, HRd.out, HB.out, HZ.out⟩
  case round =>
    obtain ⟨k, hk, hgg, rfl, hrd, hBr, hZr⟩ := hrel
    have HRk := Lib.hid hrd
    have HBr := Lib.hid hBr
    have HZr := Lib.hid hZr
    clear hrd hBr hZr
    by_cases h0 : k = 0
    · subst h0
      have hnone : Hid (readS P L = none) := Lib.hid HRk.out
      have k0 := HZr.out.cell (j := 0) rfl
      have k1 := HZr.out.cell (j := 1) rfl
      have k2 := HZr.out.cell (j := 2) rfl
      have kf : ∀ j, wr.frozen? ⟨w.heap.size, j, none⟩ = false := fun j => HZr.out.free j
      go_wp2_with fail
      refine bodyPost_ret (results_read rfl _ _ w.heap.size _ _ _ rfl (HZr.out.set3 _ _ _)) rfl ?_
      rw [HF.out, hnone.out]
      exact ⟨rfl, ((HBr.out.setCell (Nat.le_refl _) _).setCell (Nat.le_refl _) _).setCell (Nat.le_refl _) _⟩
    · have d0 : decide ((0 : Int) < (k : Int)) = true := by simp; omega
      have b0 : (0 : Int) ≤ (k : Int) := by omega
      have b1 : (k : Int) ≤ (n : Int) := by omega
      have b2 : (k : Int) ≤ (cap : Int) := by omega
      have HCk := Lib.hid (HC.out k (by omega) (by omega) (by omega) wr HBr.out)
      have HTk := Lib.hid (HTr.out k (by omega))
      have HDk : Hid (downS P L k = match tryS P L k with | some r => some r | none => downS P L (k - 1)) := Lib.hid (by
        obtain ⟨j, rfl⟩ : ∃ j, k = j + 1 := ⟨k - 1, by omega⟩
        rfl)
      go_upto_region 5 with (go_at_call 32; refine HCk.out.mono ?_; rintro e y ⟨t, b, rfl, hY, hyes, hno⟩)
      have HB1 := Lib.hid (below_next (HBr.out.trans (hY.mono HBr.out.size)) (below_lex y (.cells #[.int .i64 t.1, .string t.2.1, .string t.2.2] 31)))
      have HZ1 := Lib.hid ((HZr.out.kept hY).alloc (.cells #[.int .i64 t.1, .string t.2.1, .string t.2.2] 31))
      have HX1 := Lib.hid (block_new y #[.int .i64 t.1, .string t.2.1, .string t.2.2] 31)
      have HYes := Lib.hid hyes
      have HNo := Lib.hid hno
      clear hY hyes hno HCk
      generalize y.alloc (.cells #[.int .i64 t.1, .string t.2.1, .string t.2.2] 31) = W1 at *
      cases b with
      | true =>
        have hrs : Hid (readS P L = some (t, k)) := Lib.hid (by
          rw [HRk.out, HDk.out, HTk.out]
          cases hw : wholeS P (L.take k) with
          | none => have := HNo.out hw; cases this
          | some u => rw [(HYes.out u hw).2]; rfl)
        have x0 := HX1.out.cell (j := 0) rfl
        have x1 := HX1.out.cell (j := 1) rfl
        have x2 := HX1.out.cell (j := 2) rfl
        have k0 := HZ1.out.cell (j := 0) rfl
        have k1 := HZ1.out.cell (j := 1) rfl
        have k2 := HZ1.out.cell (j := 2) rfl
        have kf : ∀ j, W1.frozen? ⟨w.heap.size, j, none⟩ = false := fun j => HZ1.out.free j
        go_wp2_with fail
        refine bodyPost_ret (results_read rfl _ _ w.heap.size _ _ _ rfl (HZ1.out.set3 _ _ _)) rfl ?_
        rw [HF.out, hrs.out]
        exact ⟨rfl, ((HB1.out.setCell (Nat.le_refl _) _).setCell (Nat.le_refl _) _).setCell (Nat.le_refl _) _⟩
      | false =>
        have hrs : Hid (readS P L = downS P L (k - 1)) := Lib.hid (by
          rw [HRk.out, HDk.out, HTk.out]
          cases hw : wholeS P (L.take k) with
          | none => rfl
          | some u => have := (HYes.out u hw).1; cases this)
        go_wp2_with fail
        go_roundg (k - 1)
        case rel => exact ⟨k - 1, by omega, Nat.le_refl _, by go_num, hrs.out, HB1.out, HZ1.out⟩
        case measure => omega

theorem read_any (P : ByteArray → Option ByteArray) (mv : Value) (N : Nat) (hN : N ≤ 1000000000) (hP : ∀ a b, P a = some b → b.size ≤ 1000000000) (v : Value) (L : List Sym) (hg : ∀ x ∈ L, GoodS N x)
    (w : World) (he : LexEnv w) (hn : NamedC P mv N w) (hv : SlA w v L) :
    Calls Tryz.prog 10 #[v, mv] w (ReadOut (readS P L) w) := by
  rcases hv with ⟨rfl, rfl⟩ | ⟨g, o, cap, rfl, h1, h2, h3⟩
  · exact read_none none 0 mv w
  · exact read_some P mv N hN hP g o cap L h1 h2 hg w he hn h3
end Go.Proofs.YtachijkjcbajmaaGreatDoor
/-
  CONTRACTS OF ntriples.taking, the taker, place.
-/

namespace Go.Proofs.YtachijkjcbajmaaGreatDoor
open Go.RowKit
open Utf Term Lex
set_option linter.unusedVariables false
set_option linter.unusedSimpArgs false

abbrev takerV (tb : Nat) : Value := .func (.func 67) #[] #[.pointer (some ⟨tb, 0, none⟩)]
set_option maxRecDepth 100000 in
theorem ntTaking_any (p : Option Addr) (n cap : Nat) (w : World) : Calls Tryz.prog 36 #[.slice p n cap] w fun e w' => e = .returned (takerV w.heap.size) ∧ w' = w.alloc (.cells #[.slice p n cap] 25) := by
  have hmf : ∀ (fn : Fn) (first cap : Array Value) (w : World), (Instr.makeFunc fn first cap).run Tryz.prog w = .ok (.func fn first cap) w := fun _ _ _ _ => rfl
  go_enter Tryz.func36, Tryz.ntmps36
  go_wp2
  go_ret
  exact ⟨rfl, rfl⟩

/-- A taker's box, and what lies in it. -/
structure TkAt (W : World) (tb : Nat) (v : Value) (L : List Sym) : Prop where
  blk : BlockAt W tb #[v] 25
  sl : SlA W v L
theorem TkAt.below {W U : World} {tb : Nat} {v : Value} {L : List Sym} (h : TkAt W tb v L) (k : Below W.heap.size W U) : TkAt U tb v L := ⟨h.blk.kept k, h.sl.below k⟩
theorem RowS.apart {W : World} {tb g o : Nat} {v : Value} {L : List Sym} (hb : BlockAt W tb #[v] 25) (hr : RowS W g o L) (hl : 0 < L.length) : g ≠ tb := by
  rintro rfl
  have hx : (flatS L)[1]? = some ((flatS L)[1]'(by rw [flatS_length]; omega)) := List.getElem?_eq_getElem _
  have := hr 1 _ hx
  unfold World.cell? at this
  unfold BlockAt at hb
  rw [hb] at this
  simp at this
/-- The row is as it was when another block's cell is set. -/
theorem RowS.other {W : World} {tb g o : Nat} {v u : Value} {L : List Sym} (hb : BlockAt W tb #[v] 25) (hr : RowS W g o L) : RowS (W.setCell ⟨tb, 0, none⟩ u) g o L := by
  intro j x hx
  have hl : 0 < L.length := by
    have := (List.getElem?_eq_some_iff.1 hx).1
    rw [flatS_length] at this
    omega
  have hne := RowS.apart hb hr hl
  have h1 := hr j x hx
  unfold World.cell? at h1 ⊢
  rw [Below.heap_setCell W ⟨tb, 0, none⟩ u g hne]
  exact h1

/-- A slice that holds something lies in a block below B. -/
def LowV (B : Nat) (v : Value) : Prop := ∀ g o n c, v = .slice (some ⟨g, o, none⟩) n c → 0 < n → g < B
theorem SlA.low {W : World} {v : Value} {L : List Sym} (h : SlA W v L) : LowV W.heap.size v := by
  intro g o n c e hn
  rcases h with ⟨rfl, _⟩ | ⟨g', o', cap, rfl, h1, h2, h3⟩
  · cases e
  · cases e
    have hx : (flatS L)[0]? = some ((flatS L)[0]'(by rw [flatS_length]; omega)) := List.getElem?_eq_getElem _
    exact World.block_lt_of_cell? _ _ (h3 0 _ hx)
theorem SlA.under {W U : World} {B : Nat} {v : Value} {L : List Sym} (h : SlA W v L) (hl : LowV B v) (k : Below B W U) : SlA U v L := by
  rcases h with h | ⟨g, o, cap, rfl, h1, h2, h3⟩
  · exact .inl h
  · refine .inr ⟨g, o, cap, rfl, h1, h2, fun j u e => ?_⟩
    have hn : 0 < L.length := by
      have := (List.getElem?_eq_some_iff.1 e).1
      rw [flatS_length] at this
      omega
    exact (k.cell (p := ⟨g, o + j, none⟩) (hl g o _ _ rfl hn)).trans (h3 j u e)
theorem TkAt.under {W U : World} {B tb : Nat} {v : Value} {L : List Sym} (h : TkAt W tb v L) (hl : LowV B v) (ht : tb < B) (k : Below B W U) : TkAt U tb v L := ⟨h.blk.under k ht, h.sl.under hl k⟩

set_option maxRecDepth 100000 in
set_option maxHeartbeats 4000000 in
theorem ntTake_any (tb n : Nat) (v : Value) (L : List Sym) (hn : n ≤ L.length) (hN : L.length ≤ 1000000000) (w : World) (h : TkAt w tb v L) :
    Calls Tryz.prog 67 #[.int .i64 n, .pointer (some ⟨tb, 0, none⟩)] w fun e w' => ∃ v', e = .returned v' ∧ TkAt w' tb v' (L.drop n) ∧ Moves tb w w' ∧ ∀ B, LowV B v → LowV B v' := by
  obtain ⟨hb, hs⟩ := h
  have c0 := hb.cell (j := 0) rfl
  have cf : ∀ j, w.frozen? ⟨tb, j, none⟩ = false := fun j => hb.free j
  have n0 : (0 : Int) ≤ (n : Int) := by omega
  rcases hs with ⟨rfl, rfl⟩ | ⟨g, o, cap, rfl, h1, h2, h3⟩
  · obtain rfl : n = 0 := by simpa using hn
    have HB := Lib.hid hb
    clear hb
    go_enter Tryz.func67, Tryz.ntmps67
    go_wp2
    go_ret
    exact ⟨_, rfl, ⟨HB.out.set 0 _, .inl ⟨rfl, rfl⟩⟩, Moves.refl.set 0 _, fun B h => h⟩
  · have HB := Lib.hid hb
    have HR := Lib.hid h3
    have HN := Lib.hid hn
    obtain ⟨len, hlen⟩ : ∃ len, len = L.length := ⟨_, rfl⟩
    have HL := Lib.hid hlen
    rw [← hlen] at hn h1 hN c0 HB
    have n1 : (n : Int) ≤ (len : Int) := by omega
    have n2 : (len : Int) ≤ (cap : Int) := by omega
    have n3 : (n : Int) ≤ (cap : Int) := by omega
    clear hb h3 hlen
    go_enter Tryz.func67, Tryz.ntmps67
    go_wp2
    · go_ret
      have hl0 : len - n = 0 := by omega
      have hd : L.drop n = [] := List.drop_eq_nil_of_le (by have := HL.out; omega)
      refine ⟨_, rfl, ⟨HB.out.set 0 _, ?_⟩, Moves.refl.set 0 _, fun B h g' o' n' c' e hn => ?_⟩
      rotate_left
      · cases e
        omega
      rw [hd, hl0]
      exact SlA.nil _ g o 0 (Nat.zero_le _)
    · go_ret
      have hl0 : len - n = (L.drop n).length := by rw [List.length_drop, HL.out]
      refine ⟨_, rfl, ⟨HB.out.set 0 _, ?_⟩, Moves.refl.set 0 _, fun B h g' o' n' c' e hn => ?_⟩
      rotate_left
      · cases e
        exact h g o len cap (by rw [HL.out]) (by omega)
      exact .inr ⟨g, o + n * 6, cap - n, by rw [hl0]; rfl, by omega, by omega, (HR.out.drop HN.out).other HB.out⟩

set_option maxRecDepth 100000 in
set_option maxHeartbeats 4000000 in
theorem ntPlace_any (v : Value) (L : List Sym) (n : Nat) (w : World) (h : SlA w v L) :
    Calls Tryz.prog 38 #[v, .int .i64 n] w fun e w' => e = .returned (.int .i64 (placeS n L)) ∧ w = w' := by
  by_cases h0 : L = []
  · subst h0
    obtain ⟨p, cap, rfl⟩ : ∃ p cap, v = .slice p 0 cap := by
      rcases h with ⟨rfl, _⟩ | ⟨g, o, cap, rfl, _⟩
      · exact ⟨_, _, rfl⟩
      · exact ⟨_, _, rfl⟩
    clear h
    go_enter Tryz.func38, Tryz.ntmps38
    go_wp2
    go_ret
    exact ⟨rfl, rfl⟩
  · rcases h with ⟨_, h⟩ | ⟨g, o, cap, rfl, h1, h2, h3⟩
    · exact absurd h h0
    obtain ⟨x, r, rfl⟩ : ∃ x r, L = x :: r := by
      cases L with
      | nil => exact absurd rfl h0
      | cons x r => exact ⟨x, r, rfl⟩
    have s5 : w.cell? ⟨g, o + 5, none⟩ = some (.int .i64 x.place) := by
      have := h3.six (i := 0) (x := x) rfl 5 (by omega)
      rw [Nat.zero_mul, Nat.add_zero] at this
      exact this
    have d0 : ((List.length (x :: r) : Int) == 0) = false := by simp <;> omega
    have l0 : (0 : Int) < (List.length (x :: r) : Int) := by simp <;> omega
    generalize List.length (x :: r) = len at *
    clear h3 h0
    go_enter Tryz.func38, Tryz.ntmps38
    go_wp2
    go_ret
    exact ⟨rfl, rfl⟩
end Go.Proofs.YtachijkjcbajmaaGreatDoor
/-
  THE CONTRACT OF ntriples.statement.
-/

namespace Go.Proofs.YtachijkjcbajmaaGreatDoor
open Go.RowKit
open Utf Term Lex
set_option linter.unusedVariables false
set_option linter.unusedSimpArgs false

abbrev zT : TermD := (0, ⟨#[]⟩, ⟨#[]⟩)
abbrev nineC (a b c : TermD) : Array Value := #[.int .i64 a.1, .string a.2.1, .string a.2.2, .int .i64 b.1, .string b.2.1, .string b.2.2, .int .i64 c.1, .string c.2.1, .string c.2.2]

theorem SlA.moves {w u : World} {tb : Nat} {v v' : Value} {L : List Sym} (hb : BlockAt w tb #[v'] 25) (h : SlA w v L) (m : Moves tb w u) : SlA u v L := by
  rcases h with h | ⟨g, o, cap, h1, h2, h3, h4⟩
  · exact .inl h
  · refine .inr ⟨g, o, cap, h1, h2, h3, fun j x hx => ?_⟩
    have hl : 0 < L.length := by
      have := (List.getElem?_eq_some_iff.1 hx).1
      rw [flatS_length] at this
      omega
    have hne := RowS.apart hb h4 hl
    have h5 := h4 j x hx
    have hlt : g < w.heap.size := World.block_lt_of_cell? _ _ h5
    unfold World.cell? at h5 ⊢
    rw [m.block g hlt hne]
    exact h5
theorem Moves.env {w u : World} {tb : Nat} (m : Moves tb w u) (h : LexEnv w) (htb : tb < w.heap.size) (hrp : 0 < tb ∧ 1 < tb ∧ 2 < tb) : LexEnv u :=
  h.under (m.below (Nat.le_of_lt htb) (Nat.le_refl _)) hrp

theorem results_stm {fn : Func} {p u v : Tmp} (h : fn.results = #[.cell p 51, .tmp u, .tmp v]) (tmps : Array Value) (w : World) (g : Nat) (a b c : TermD)
    (hp : tmps.getD p undef = .pointer (some ⟨g, 0, none⟩)) (hx : BlockAt w g (nineC a b c) 51) :
    (results fn tmps).run Tryz.prog w = .ok (.tuple #[tripleV a b c, tmps.getD u undef, tmps.getD v undef]) w := by
  have h1 := run_loadVar_row (P := Tryz.prog) w g 51 51 (nineC a b c) (0, 0) _ hx Tryz.underlying51 rfl (by kernel_rfl)
  have hp' : tmps[p]?.getD undef = .pointer (some ⟨g, 0, none⟩) := by simpa using hp
  simp only [results, h]
  simp [Sem.run_bind, Result.andThen, hp', asAddr, h1]

theorem ntRead_any (N : Nat) (hN : N ≤ 1000000000) (v : Value) (L : List Sym) (hg : ∀ x ∈ L, GoodS N x) (w : World) (he : LexEnv w) (hv : SlA w v L) :
    Calls Tryz.prog 10 #[v, .map none] w (ReadOut (readS noP L) w) :=
  read_any noP (.map none) N hN noP_small v L hg w he (named_any noP (.map none) N hN w he (fun W _ => mapS_nil W) noP_small) hv

/-- What is read is short. -/
theorem namedS_fits {N : Nat} (hN : N ≤ 1000000000) {x : Sym} (hx : GoodS N x) {u : TermD} (h : namedS noP x = some u) : u.2.1.size ≤ N ∧ u.2.2.size ≤ N := by
  have ht : (S x.tt).size ≤ N := by show (strOfNums x.tt).size ≤ _; rw [strNums_size]; exact hx.ltt
  unfold namedS at h
  split at h
  · cases h; exact ⟨ht, Nat.zero_le _⟩
  · split at h
    · cases h; exact ⟨ht, Nat.zero_le _⟩
    · split at h <;> cases h
theorem okT_eq {t u : TermD} (h : okT t = some u) : t = u := by
  unfold okT at h
  split at h
  · exact Option.some.inj h
  · cases h
theorem wholeS_fits {N : Nat} (hN : N ≤ 1000000000) {L : List Sym} (hg : ∀ x ∈ L, GoodS N x) {u : TermD} (h : wholeS noP L = some u) : u.2.1.size ≤ N ∧ u.2.2.size ≤ N := by
  have ht : ∀ x ∈ L, (S x.text).size ≤ N := fun x hx => by show (strOfNums x.text).size ≤ _; rw [strNums_size]; exact (hg x hx).lt
  match L, h with
  | [x], h =>
    rw [wholeS] at h
    split at h
    · rw [← okT_eq h]; exact ⟨ht x (by simp), Nat.zero_le _⟩
    · exact namedS_fits hN (hg x (by simp)) h
  | [x, y], h =>
    rw [wholeS] at h
    split at h
    · rw [← okT_eq h]; exact ⟨ht x (by simp), ht y (by simp)⟩
    · cases h
  | [x, y, z], h =>
    rw [wholeS] at h
    split at h
    · unfold typedR at h
      cases hn : namedS noP z with
      | none => rw [hn] at h; cases h
      | some q =>
        rw [hn] at h
        have hq := namedS_fits hN (hg z (by simp)) hn
        simp only at h
        split at h
        · split at h
          · rw [← okT_eq h]; exact ⟨ht x (by simp), Nat.zero_le _⟩
          · rw [← okT_eq h]; exact ⟨ht x (by simp), hq.1⟩
        · cases h
    · cases h
theorem readS_fits {N : Nat} (hN : N ≤ 1000000000) {L : List Sym} (hg : ∀ x ∈ L, GoodS N x) {t : TermD} {n : Nat} (h : readS noP L = some (t, n)) : t.2.1.size ≤ N ∧ t.2.2.size ≤ N := by
  have ht : ∀ k, tryS noP L k = some (t, n) → t.2.1.size ≤ N ∧ t.2.2.size ≤ N := by
    intro k hk
    unfold tryS at hk
    split at hk
    · cases hw : wholeS noP (L.take k) with
      | none => rw [hw] at hk; cases hk
      | some u =>
        rw [hw] at hk
        simp only [Option.map_some, Option.some.injEq, Prod.mk.injEq] at hk
        rw [← hk.1]
        exact wholeS_fits hN (fun x hx => hg x (List.mem_of_mem_take hx)) hw
    · cases hk
  unfold readS at h
  cases h3 : tryS noP L 3 with
  | some r => rw [h3] at h; simp only [Option.some.injEq] at h; subst h; exact ht 3 h3
  | none =>
    rw [h3] at h
    simp only at h
    cases h2 : tryS noP L 2 with
    | some r => rw [h2] at h; simp only [Option.some.injEq] at h; subst h; exact ht 2 h2
    | none => rw [h2] at h; exact ht 1 h

abbrev set9 (W : World) (g : Nat) (a b c : TermD) : World :=
  (((((((((W.setCell ⟨g, 0, none⟩ (.int .i64 a.1)).setCell ⟨g, 1, none⟩ (.string a.2.1)).setCell ⟨g, 2, none⟩ (.string a.2.2)).setCell ⟨g, 3, none⟩ (.int .i64 b.1)).setCell ⟨g, 4, none⟩ (.string b.2.1)).setCell ⟨g, 5, none⟩ (.string b.2.2)).setCell ⟨g, 6, none⟩ (.int .i64 c.1)).setCell ⟨g, 7, none⟩ (.string c.2.1)).setCell ⟨g, 8, none⟩ (.string c.2.2))
theorem BlockAt.put0 {W : World} {g : Nat} {a b c : TermD} {t : TypeId} (h : BlockAt W g (nineC a b c) t) (x : TermD) : BlockAt (((W.setCell ⟨g, 0, none⟩ (.int .i64 x.1)).setCell ⟨g, 1, none⟩ (.string x.2.1)).setCell ⟨g, 2, none⟩ (.string x.2.2)) g (nineC x b c) t :=
  ((h.set 0 _).set 1 _).set 2 _
theorem BlockAt.put1 {W : World} {g : Nat} {a b c : TermD} {t : TypeId} (h : BlockAt W g (nineC a b c) t) (x : TermD) : BlockAt (((W.setCell ⟨g, 3, none⟩ (.int .i64 x.1)).setCell ⟨g, 4, none⟩ (.string x.2.1)).setCell ⟨g, 5, none⟩ (.string x.2.2)) g (nineC a x c) t :=
  ((h.set 3 _).set 4 _).set 5 _
theorem BlockAt.put2 {W : World} {g : Nat} {a b c : TermD} {t : TypeId} (h : BlockAt W g (nineC a b c) t) (x : TermD) : BlockAt (((W.setCell ⟨g, 6, none⟩ (.int .i64 x.1)).setCell ⟨g, 7, none⟩ (.string x.2.1)).setCell ⟨g, 8, none⟩ (.string x.2.2)) g (nineC a b x) t :=
  ((h.set 6 _).set 7 _).set 8 _
theorem block_set9 {W : World} {g : Nat} {x y z : TermD} {t : TypeId} (h : BlockAt W g (nineC x y z) t) (a b c : TermD) : BlockAt (set9 W g a b c) g (nineC a b c) t :=
  ((h.put0 a).put1 b).put2 c
theorem below_set9 {B : Nat} {w W : World} (h : Below B w W) {g : Nat} (hg : B ≤ g) (a b c : TermD) : Below B w (set9 W g a b c) :=
  ((((((((h.setCell hg _).setCell hg _).setCell hg _).setCell hg _).setCell hg _).setCell hg _).setCell hg _).setCell hg _).setCell hg _
theorem Moves.set9 {tb : Nat} {w W : World} (h : Moves tb w W) {g : Nat} (hg : w.heap.size ≤ g) (a b c : TermD) : Moves tb w (set9 W g a b c) :=
  ((((((((h.fresh hg 0 _).fresh hg 1 _).fresh hg 2 _).fresh hg 3 _).fresh hg 4 _).fresh hg 5 _).fresh hg 6 _).fresh hg 7 _).fresh hg 8 _
theorem Moves.go {tb : Nat} {w u v : World} (h : Moves tb w u) (k : Below u.heap.size u v) : Moves tb w v := h.then (k.mono h.size)

/-- What statement answers. -/
def StmOut (tb : Nat) (v0 : Value) (r : Stm) (w : World) (e : Ending) (w' : World) : Prop :=
  Moves tb w w' ∧ match r with
  | .no l => ∃ v v', e = .returned (.tuple #[tripleV zT zT zT, v, .bool false]) ∧ SlA w' v l ∧ BlockAt w' tb #[v'] 25
  | .yes t l => ∃ v', e = .returned (.tuple #[tripleV t.1 t.2.1 t.2.2, .slice none 0 0, .bool true]) ∧ TkAt w' tb v' l ∧ ∀ B, LowV B v0 → LowV B v'

/-- Round by round: what has been read, and what comes. -/
def StmRel (N tb : Nat) (v0 : Value) (L : List Sym) (w : World) (k : Nat) (wr : World) : Prop :=
  ∃ (a b c : TermD) (v : Value) (R : List Sym), threeS 3 L = (threeS (3 - k) R).put ([a, b, c].take k) ∧ TkAt wr tb v R ∧ (∀ B, LowV B v0 → LowV B v) ∧ (∀ x ∈ R, GoodS N x) ∧ R.length ≤ 1000000000 ∧
    Moves tb w wr ∧ w.heap.size + 2 ≤ wr.heap.size ∧ BlockAt wr w.heap.size (nineC zT zT zT) 51 ∧ BlockAt wr (w.heap.size + 1) (nineC a b c) 51 ∧ Fits a ∧ Fits b ∧ Fits c
theorem zT_fits : Fits zT := ⟨Nat.zero_le _, Nat.zero_le _⟩
theorem three_next {n : Nat} {R : List Sym} {t : TermD} {k : Nat} (h : readS noP R = some (t, k)) : threeS (n + 1) R = (threeS n (R.drop k)).put [t] := by rw [threeS, h]
theorem three_stop {n : Nat} {R : List Sym} (h : readS noP R = none) : threeS (n + 1) R = .no R := by rw [threeS, h]

theorem StmRel.put {N tb : Nat} {L : List Sym} {w wr u : World} {k n : Nat} {a b c t : TermD} {v : Value} {R : List Sym} (hk : k < 3) (h3 : threeS 3 L = (threeS (3 - k) R).put ([a, b, c].take k)) (hr : readS noP R = some (t, n)) :
    threeS 3 L = (threeS (3 - (k + 1)) (R.drop n)).put (([a, b, c].take k) ++ [t]) := by
  obtain ⟨j, hj⟩ : ∃ j, 3 - k = j + 1 := ⟨2 - k, by omega⟩
  rw [h3, hj, three_next hr, put_put, show 3 - (k + 1) = j by omega]

set_option maxRecDepth 100000 in
set_option maxHeartbeats 16000000 in
theorem ntStm_any (N : Nat) (hN : N ≤ 1000000000) (tb : Nat) (v0 : Value) (L : List Sym) (hg : ∀ x ∈ L, GoodS N x) (hL : L.length ≤ 1000000000) (w : World) (he : LexEnv w) (htb : tb < w.heap.size)
    (hrp : 0 < tb ∧ 1 < tb ∧ 2 < tb) (ht : TkAt w tb v0 L) :
    Calls Tryz.prog 37 #[takerV tb] w (StmOut tb v0 (stmS L) w) := by
  have hB : Below w.heap.size w ((w.alloc (.cells (nineC zT zT zT) 51)).alloc (.cells (nineC zT zT zT) 51)) := below_next (below_lex _ _) (below_lex _ _)
  have hR : BlockAt ((w.alloc (.cells (nineC zT zT zT) 51)).alloc (.cells (nineC zT zT zT) 51)) w.heap.size (nineC zT zT zT) 51 := (block_new w _ _).alloc _
  have hT : BlockAt ((w.alloc (.cells (nineC zT zT zT) 51)).alloc (.cells (nineC zT zT zT) 51)) (w.heap.size + 1) (nineC zT zT zT) 51 := by
    have := block_new (w.alloc (.cells (nineC zT zT zT) 51)) (nineC zT zT zT) 51
    rwa [World.size_alloc] at this
  have hsz : w.heap.size + 2 ≤ ((w.alloc (.cells (nineC zT zT zT) 51)).alloc (.cells (nineC zT zT zT) 51)).heap.size := by simp
  obtain ⟨W0, hW0⟩ : ∃ W0, W0 = ((w.alloc (.cells (nineC zT zT zT) 51)).alloc (.cells (nineC zT zT zT) 51)) := ⟨_, rfl⟩
  rw [← hW0] at hB hR hT hsz
  have HTk := Lib.hid (ntTake_any tb 0 v0 L (Nat.zero_le _) hL W0 (ht.below hB))
  obtain ⟨F, hF⟩ : ∃ F, F = StmOut tb v0 (stmS L) w := ⟨_, rfl⟩
  have HF := Lib.hid hF
  rw [← hF]
  have HLow := Lib.hid ht.sl.low
  have HG := Lib.hid hg
  have HE := Lib.hid he
  have HB := Lib.hid hB
  have HR := Lib.hid hR
  have HT := Lib.hid hT
  have HW0 := Lib.hid hW0
  have HSz := Lib.hid hsz
  clear hB hR hT hsz hW0 hF ht he hg
  go_enter Tryz.func37, Tryz.ntmps37
  go_upto_region 2 with fail
  rw [← HW0.out]
  go_upto_region 3 with (go_at_call 67; refine HTk.out.mono ?_; rintro e y0 ⟨vf, rfl, hT0, hM0, hl0⟩)
  rw [List.drop_zero] at hT0
  have HT0 := Lib.hid hT0
  have HL0 := Lib.hid hl0
  have HM0 : Hid (Moves tb w y0) := Lib.hid ((Moves.of_below HB.out).trans hM0)
  have HR0 := Lib.hid (hM0.at_ HR.out (by omega))
  have HTt0 := Lib.hid (hM0.at_ HT.out (by omega))
  have HS0 : Hid (w.heap.size + 2 ≤ y0.heap.size) := Lib.hid (by have := hM0.size; have := HSz.out; omega)
  clear hT0 hM0 HTk HR HT HSz HB HW0 hl0
  go_wp2_with fail
  go_loopg [14] 3 (fun gg i wr => ∃ k : Nat, k ≤ 3 ∧ 3 - k ≤ gg ∧ i = .int .i64 k ∧ StmRel N tb v0 L w k wr ∧ SlA wr vf L)
  case atStart =>
    refine ⟨0, by omega, by omega, rfl, ⟨zT, zT, zT, vf, L, ?_, HT0.out, HL0.out, HG.out, hL, HM0.out, HS0.out, HR0.out, HTt0.out, zT_fits, zT_fits, zT_fits⟩, HT0.out.sl⟩
    rw [List.take_zero, put_nil]
  case round =>
    obtain ⟨k, hk, hgg, rfl, ⟨a, b, c, v, R, h3, htk, hlw, hgR, hlR, hM, hsz, hbR, hbT, fa, fb, fc⟩, hsf⟩ := hrel
    have H3 := Lib.hid h3
    have HTk := Lib.hid htk
    have HLw := Lib.hid hlw
    have HGR := Lib.hid hgR
    have HM := Lib.hid hM
    have HBR := Lib.hid hbR
    have HBT := Lib.hid hbT
    have HSf := Lib.hid hsf
    have HFt := Lib.hid (show Fits a ∧ Fits b ∧ Fits c from ⟨fa, fb, fc⟩)
    have HEr := Lib.hid (hM.env HE.out htb hrp)
    have htr : tb < wr.heap.size := by omega
    clear h3 htk hgR hM hbR hbT hsf fa fb fc HM0 HR0 HTt0 HS0 HT0 hlw
    by_cases hk3 : k < 3
    · have d1 : decide ((k : Int) < 3) = true := by simp; omega
      have HTa := Lib.hid (ntTake_any tb 0 v R (Nat.zero_le _) hlR wr HTk.out)
      cases hr : readS noP R with
      | none =>
        have HRd : Hid (∀ v W, SlA W v R → LexEnv W → Calls Tryz.prog 10 #[v, .map none] W fun e w' => e = .returned (.tuple #[.agg #[.int .i64 0, .string ⟨#[]⟩, .string ⟨#[]⟩], .int .i64 0, .int .i64 4]) ∧ Below W.heap.size W w') := Lib.hid (fun v W hs hE => by
          have := ntRead_any N hN v R HGR.out W hE hs
          rw [hr] at this
          exact this)
        have HX : Hid (stmS L = .no R) := Lib.hid (by
          unfold stmS
          obtain ⟨j, hj⟩ : ∃ j, 3 - k = j + 1 := ⟨2 - k, by omega⟩
          rw [H3.out, hj, three_stop hr]
          rfl)
        clear hr
        go_upto_region 7 with (first | (go_at_call 67; refine HTa.out.mono ?_; rintro e y1 ⟨v1, rfl, hT1, hM1, hl1⟩; have hR1 := HRd.out v1 y1 (by have := hT1.sl; rwa [List.drop_zero] at this) (hM1.env HEr.out htr hrp)) | (go_at_call 10; refine hR1.mono ?_; rintro e y2 ⟨rfl, hY2⟩))
        have hM2 : Moves tb wr (y2.alloc (.cells #[.int .i64 0, .string ⟨#[]⟩, .string ⟨#[]⟩] 31)) := hM1.go (below_next hY2 (below_lex _ _))
        have hT2 := hT1.below (below_next hY2 (below_lex y2 (.cells #[.int .i64 0, .string ⟨#[]⟩, .string ⟨#[]⟩] 31)))
        rw [List.drop_zero] at hT2
        have HL1 := Lib.hid (fun B h => hl1 B (HLw.out B h))
        clear hT1 hM1 hY2 hR1 hl1
        generalize y2.alloc (.cells #[.int .i64 0, .string ⟨#[]⟩, .string ⟨#[]⟩] 31) = W2 at *
        have HM2 := Lib.hid hM2
        have HTb := Lib.hid (ntTake_any tb 0 v1 R (Nat.zero_le _) hlR W2 hT2)
        clear hM2 hT2
        go_wp2_with (go_at_call 67; refine HTb.out.mono ?_; rintro e y3 ⟨v3, rfl, hT3, hM3, hl3⟩; have hbR3 := (hM3.at_ (HM2.out.at_ HBR.out (by omega)) (by omega)); have k0 := hbR3.cell (j := 0) rfl; have k1 := hbR3.cell (j := 1) rfl; have k2 := hbR3.cell (j := 2) rfl; have k3 := hbR3.cell (j := 3) rfl; have k4 := hbR3.cell (j := 4) rfl; have k5 := hbR3.cell (j := 5) rfl; have k6 := hbR3.cell (j := 6) rfl; have k7 := hbR3.cell (j := 7) rfl; have k8 := hbR3.cell (j := 8) rfl; have kf : ∀ j, y3.frozen? ⟨w.heap.size, j, none⟩ = false := fun j => hbR3.free j)
        rw [List.drop_zero] at hT3
        refine bodyPost_ret (results_stm (p := 2) (u := 3) (v := 4) rfl _ _ w.heap.size zT zT zT rfl (block_set9 hbR3 zT zT zT)) rfl ?_
        rw [HF.out, HX.out]
        have hM4 : Moves tb w (set9 y3 w.heap.size zT zT zT) := ((HM.out.trans HM2.out).trans hM3).set9 (Nat.le_refl _) _ _ _
        have hB4 : Below w.heap.size y3 (set9 y3 w.heap.size zT zT zT) := below_set9 (Below.refl _ _) (Nat.le_refl _) zT zT zT
        exact ⟨hM4, v3, v3, rfl, hT3.sl.under (hl3 _ (HL1.out _ HLow.out)) hB4, hT3.blk.under hB4 htb⟩
      | some x =>
        obtain ⟨t, n⟩ := x
        have HRd : Hid (∀ v W, SlA W v R → LexEnv W → Calls Tryz.prog 10 #[v, .map none] W fun e w' => e = .returned (.tuple #[.agg #[.int .i64 t.1, .string t.2.1, .string t.2.2], .int .i64 n, .int .i64 0]) ∧ Below W.heap.size W w') := Lib.hid (fun v W hs hE => by
          have := ntRead_any N hN v R HGR.out W hE hs
          rw [hr] at this
          exact this)
        have hpos := readS_pos hr
        have hft : Fits t := by
          have := readS_fits hN HGR.out hr
          exact ⟨by omega, by omega⟩
        have HNx := Lib.hid (StmRel.put (N := N) (tb := tb) (w := w) (wr := wr) (u := wr) (v := v) hk3 H3.out hr)
        have HFx := Lib.hid hft
        clear hr hft
        go_upto_region 7 with (first | (go_at_call 67; refine HTa.out.mono ?_; rintro e y1 ⟨v1, rfl, hT1, hM1, hl1⟩; have hR1 := HRd.out v1 y1 (by have := hT1.sl; rwa [List.drop_zero] at this) (hM1.env HEr.out htr hrp)) | (go_at_call 10; refine hR1.mono ?_; rintro e y2 ⟨rfl, hY2⟩))
        have hM2 : Moves tb wr (y2.alloc (.cells #[.int .i64 t.1, .string t.2.1, .string t.2.2] 31)) := hM1.go (below_next hY2 (below_lex _ _))
        have hT2 := hT1.below (below_next hY2 (below_lex y2 (.cells #[.int .i64 t.1, .string t.2.1, .string t.2.2] 31)))
        have hX2 := block_new y2 #[.int .i64 t.1, .string t.2.1, .string t.2.2] 31
        have hy2 : w.heap.size + 2 ≤ y2.heap.size := by have := hM1.size; have := hY2.size; omega
        rw [List.drop_zero] at hT2
        have HL1 := Lib.hid (fun B h => hl1 B (HLw.out B h))
        clear hT1 hM1 hY2 hR1 hl1
        generalize y2.alloc (.cells #[.int .i64 t.1, .string t.2.1, .string t.2.2] 31) = W2 at *
        have HM2 := Lib.hid hM2
        have HT2 := Lib.hid hT2
        have hT9 := hM2.at_ HBT.out (by omega)
        have HT9 := Lib.hid hT9
        have z0 := hX2.cell (j := 0) rfl
        have z1 := hX2.cell (j := 1) rfl
        have z2 := hX2.cell (j := 2) rfl
        have tf : ∀ j, W2.frozen? ⟨w.heap.size + 1, j, none⟩ = false := fun j => hT9.free j
        clear hM2 hT2 hT9 hX2
        have hcase : k = 0 ∨ k = 1 ∨ k = 2 := by omega
        have n0 : (0 : Int) ≤ (n : Int) := by omega
        rcases hcase with rfl | rfl | rfl
        · have x0 := HT9.out.cell (j := 0) rfl
          have x1 := HT9.out.cell (j := 1) rfl
          have x2 := HT9.out.cell (j := 2) rfl
          have hTa := HT9.out.put0 t
          have hBa : Below w.heap.size W2 (((W2.setCell ⟨w.heap.size + 1, 0, none⟩ (.int .i64 t.1)).setCell ⟨w.heap.size + 1, 1, none⟩ (.string t.2.1)).setCell ⟨w.heap.size + 1, 2, none⟩ (.string t.2.2)) := (((Below.refl w.heap.size W2).setCell (Nat.le_succ _) _).setCell (Nat.le_succ _) _).setCell (Nat.le_succ _) _
          have hMa : Moves tb w (((W2.setCell ⟨w.heap.size + 1, 0, none⟩ (.int .i64 t.1)).setCell ⟨w.heap.size + 1, 1, none⟩ (.string t.2.1)).setCell ⟨w.heap.size + 1, 2, none⟩ (.string t.2.2)) := (((HM.out.trans HM2.out).fresh (Nat.le_succ _) _ _).fresh (Nat.le_succ _) _ _).fresh (Nat.le_succ _) _ _
          have hRa : BlockAt (((W2.setCell ⟨w.heap.size + 1, 0, none⟩ (.int .i64 t.1)).setCell ⟨w.heap.size + 1, 1, none⟩ (.string t.2.1)).setCell ⟨w.heap.size + 1, 2, none⟩ (.string t.2.2)) w.heap.size (nineC zT zT zT) 51 := (((HM2.out.at_ HBR.out (by omega)).other (by omega) _ _).other (by omega) _ _).other (by omega) _ _
          go_upto_region 10 with fail
          generalize (((W2.setCell ⟨w.heap.size + 1, 0, none⟩ (.int .i64 t.1)).setCell ⟨w.heap.size + 1, 1, none⟩ (.string t.2.1)).setCell ⟨w.heap.size + 1, 2, none⟩ (.string t.2.2)) = W3 at *
          have hT3 := HT2.out.under (HL1.out _ HLow.out) htb hBa
          have HTn := Lib.hid (ntTake_any tb n v1 R hpos.2.2 hlR W3 hT3)
          have HS3 := Lib.hid (((HSf.out.moves HTk.out.blk HM2.out)).under (HL0.out _ HLow.out) hBa)
          have HTa := Lib.hid hTa
          have HMa := Lib.hid hMa
          have HRa := Lib.hid hRa
          have HT3 := Lib.hid hT3
          have HZ3 : Hid (w.heap.size + 2 ≤ W3.heap.size) := Lib.hid (by have := hBa.size; have := HM2.out.size; omega)
          clear hTa hMa hRa hT3 hBa x0 x1 x2 z0 z1 z2 tf
          go_wp2_with (go_at_call 67; refine HTn.out.mono ?_; rintro e y5 ⟨v5, rfl, hT5, hM5, hl5⟩)
          go_roundg (3 - (0 + 1))
          case rel =>
            exact ⟨0 + 1, by omega, Nat.le_refl _, by go_num, ⟨t, b, c, v5, R.drop n, HNx.out, hT5, fun B h => hl5 B (HL1.out B h), fun x hx => HGR.out x (List.mem_of_mem_drop hx), by rw [List.length_drop]; omega, HMa.out.trans hM5, by have := hM5.size; have := HZ3.out; omega, hM5.at_ HRa.out (by omega), hM5.at_ HTa.out (by omega), HFx.out, HFt.out.2.1, HFt.out.2.2⟩, HS3.out.moves HT3.out.blk hM5⟩
          case measure => omega
        · have x0 := HT9.out.cell (j := 3) rfl
          have x1 := HT9.out.cell (j := 4) rfl
          have x2 := HT9.out.cell (j := 5) rfl
          have hTa := HT9.out.put1 t
          have hBa : Below w.heap.size W2 (((W2.setCell ⟨w.heap.size + 1, 3, none⟩ (.int .i64 t.1)).setCell ⟨w.heap.size + 1, 4, none⟩ (.string t.2.1)).setCell ⟨w.heap.size + 1, 5, none⟩ (.string t.2.2)) := (((Below.refl w.heap.size W2).setCell (Nat.le_succ _) _).setCell (Nat.le_succ _) _).setCell (Nat.le_succ _) _
          have hMa : Moves tb w (((W2.setCell ⟨w.heap.size + 1, 3, none⟩ (.int .i64 t.1)).setCell ⟨w.heap.size + 1, 4, none⟩ (.string t.2.1)).setCell ⟨w.heap.size + 1, 5, none⟩ (.string t.2.2)) := (((HM.out.trans HM2.out).fresh (Nat.le_succ _) _ _).fresh (Nat.le_succ _) _ _).fresh (Nat.le_succ _) _ _
          have hRa : BlockAt (((W2.setCell ⟨w.heap.size + 1, 3, none⟩ (.int .i64 t.1)).setCell ⟨w.heap.size + 1, 4, none⟩ (.string t.2.1)).setCell ⟨w.heap.size + 1, 5, none⟩ (.string t.2.2)) w.heap.size (nineC zT zT zT) 51 := (((HM2.out.at_ HBR.out (by omega)).other (by omega) _ _).other (by omega) _ _).other (by omega) _ _
          go_upto_region 10 with fail
          generalize (((W2.setCell ⟨w.heap.size + 1, 3, none⟩ (.int .i64 t.1)).setCell ⟨w.heap.size + 1, 4, none⟩ (.string t.2.1)).setCell ⟨w.heap.size + 1, 5, none⟩ (.string t.2.2)) = W3 at *
          have hT3 := HT2.out.under (HL1.out _ HLow.out) htb hBa
          have HTn := Lib.hid (ntTake_any tb n v1 R hpos.2.2 hlR W3 hT3)
          have HS3 := Lib.hid (((HSf.out.moves HTk.out.blk HM2.out)).under (HL0.out _ HLow.out) hBa)
          have HTa := Lib.hid hTa
          have HMa := Lib.hid hMa
          have HRa := Lib.hid hRa
          have HT3 := Lib.hid hT3
          have HZ3 : Hid (w.heap.size + 2 ≤ W3.heap.size) := Lib.hid (by have := hBa.size; have := HM2.out.size; omega)
          clear hTa hMa hRa hT3 hBa x0 x1 x2 z0 z1 z2 tf
          go_wp2_with (go_at_call 67; refine HTn.out.mono ?_; rintro e y5 ⟨v5, rfl, hT5, hM5, hl5⟩)
          go_roundg (3 - (1 + 1))
          case rel =>
            exact ⟨1 + 1, by omega, Nat.le_refl _, by go_num, ⟨a, t, c, v5, R.drop n, HNx.out, hT5, fun B h => hl5 B (HL1.out B h), fun x hx => HGR.out x (List.mem_of_mem_drop hx), by rw [List.length_drop]; omega, HMa.out.trans hM5, by have := hM5.size; have := HZ3.out; omega, hM5.at_ HRa.out (by omega), hM5.at_ HTa.out (by omega), HFt.out.1, HFx.out, HFt.out.2.2⟩, HS3.out.moves HT3.out.blk hM5⟩
          case measure => omega
        · have x0 := HT9.out.cell (j := 6) rfl
          have x1 := HT9.out.cell (j := 7) rfl
          have x2 := HT9.out.cell (j := 8) rfl
          have hTa := HT9.out.put2 t
          have hBa : Below w.heap.size W2 (((W2.setCell ⟨w.heap.size + 1, 6, none⟩ (.int .i64 t.1)).setCell ⟨w.heap.size + 1, 7, none⟩ (.string t.2.1)).setCell ⟨w.heap.size + 1, 8, none⟩ (.string t.2.2)) := (((Below.refl w.heap.size W2).setCell (Nat.le_succ _) _).setCell (Nat.le_succ _) _).setCell (Nat.le_succ _) _
          have hMa : Moves tb w (((W2.setCell ⟨w.heap.size + 1, 6, none⟩ (.int .i64 t.1)).setCell ⟨w.heap.size + 1, 7, none⟩ (.string t.2.1)).setCell ⟨w.heap.size + 1, 8, none⟩ (.string t.2.2)) := (((HM.out.trans HM2.out).fresh (Nat.le_succ _) _ _).fresh (Nat.le_succ _) _ _).fresh (Nat.le_succ _) _ _
          have hRa : BlockAt (((W2.setCell ⟨w.heap.size + 1, 6, none⟩ (.int .i64 t.1)).setCell ⟨w.heap.size + 1, 7, none⟩ (.string t.2.1)).setCell ⟨w.heap.size + 1, 8, none⟩ (.string t.2.2)) w.heap.size (nineC zT zT zT) 51 := (((HM2.out.at_ HBR.out (by omega)).other (by omega) _ _).other (by omega) _ _).other (by omega) _ _
          go_upto_region 10 with fail
          generalize (((W2.setCell ⟨w.heap.size + 1, 6, none⟩ (.int .i64 t.1)).setCell ⟨w.heap.size + 1, 7, none⟩ (.string t.2.1)).setCell ⟨w.heap.size + 1, 8, none⟩ (.string t.2.2)) = W3 at *
          have hT3 := HT2.out.under (HL1.out _ HLow.out) htb hBa
          have HTn := Lib.hid (ntTake_any tb n v1 R hpos.2.2 hlR W3 hT3)
          have HS3 := Lib.hid (((HSf.out.moves HTk.out.blk HM2.out)).under (HL0.out _ HLow.out) hBa)
          have HTa := Lib.hid hTa
          have HMa := Lib.hid hMa
          have HRa := Lib.hid hRa
          have HT3 := Lib.hid hT3
          have HZ3 : Hid (w.heap.size + 2 ≤ W3.heap.size) := Lib.hid (by have := hBa.size; have := HM2.out.size; omega)
          clear hTa hMa hRa hT3 hBa x0 x1 x2 z0 z1 z2 tf
          go_wp2_with (go_at_call 67; refine HTn.out.mono ?_; rintro e y5 ⟨v5, rfl, hT5, hM5, hl5⟩)
          go_roundg (3 - (2 + 1))
          case rel =>
            exact ⟨2 + 1, by omega, Nat.le_refl _, by go_num, ⟨a, b, t, v5, R.drop n, HNx.out, hT5, fun B h => hl5 B (HL1.out B h), fun x hx => HGR.out x (List.mem_of_mem_drop hx), by rw [List.length_drop]; omega, HMa.out.trans hM5, by have := hM5.size; have := HZ3.out; omega, hM5.at_ HRa.out (by omega), hM5.at_ HTa.out (by omega), HFt.out.1, HFt.out.2.1, HFx.out⟩, HS3.out.moves HT3.out.blk hM5⟩
          case measure => omega
    · obtain rfl : k = 3 := by omega
      have d1 : decide (((3 : Nat) : Int) < 3) = false := by decide
      have hY : Hid (threeS 3 L = .yes [a, b, c] R) := Lib.hid (by
        have := H3.out
        rw [show 3 - 3 = 0 from rfl] at this
        exact this)
      obtain ⟨m, hm⟩ := HEr.out.len
      have HMA := Lib.hid (mayAdd_any a b c HFt.out.1 HFt.out.2.1 HFt.out.2.2 m wr hm)
      clear hm H3
      have x0 := HBT.out.cell (j := 0) rfl
      have x1 := HBT.out.cell (j := 1) rfl
      have x2 := HBT.out.cell (j := 2) rfl
      have x3 := HBT.out.cell (j := 3) rfl
      have x4 := HBT.out.cell (j := 4) rfl
      have x5 := HBT.out.cell (j := 5) rfl
      have x6 := HBT.out.cell (j := 6) rfl
      have x7 := HBT.out.cell (j := 7) rfl
      have x8 := HBT.out.cell (j := 8) rfl
      cases had : addD a b c with
      | false =>
        rw [had] at HMA
        have HX : Hid (stmS L = .no L) := Lib.hid (by
          unfold stmS
          rw [hY.out]
          show (if addD a b c = true then _ else _) = _
          rw [had, if_neg (by decide)])
        clear had
        go_wp2_with (go_at_call 42; refine HMA.out.mono ?_; rintro e y1 ⟨rfl, hY1⟩; have hbR1 := HBR.out.kept hY1; have k0 := hbR1.cell (j := 0) rfl; have k1 := hbR1.cell (j := 1) rfl; have k2 := hbR1.cell (j := 2) rfl; have k3 := hbR1.cell (j := 3) rfl; have k4 := hbR1.cell (j := 4) rfl; have k5 := hbR1.cell (j := 5) rfl; have k6 := hbR1.cell (j := 6) rfl; have k7 := hbR1.cell (j := 7) rfl; have k8 := hbR1.cell (j := 8) rfl; have kf : ∀ j, y1.frozen? ⟨w.heap.size, j, none⟩ = false := fun j => hbR1.free j)
        refine bodyPost_ret (results_stm (p := 2) (u := 3) (v := 4) rfl _ _ w.heap.size zT zT zT rfl (block_set9 hbR1 zT zT zT)) rfl ?_
        rw [HF.out, HX.out]
        have hB4 : Below w.heap.size y1 (set9 y1 w.heap.size zT zT zT) := below_set9 (Below.refl _ _) (Nat.le_refl _) zT zT zT
        have hM4 : Moves tb w (set9 y1 w.heap.size zT zT zT) := (HM.out.go hY1).set9 (Nat.le_refl _) zT zT zT
        exact ⟨hM4, vf, v, rfl, (HSf.out.below hY1).under (HL0.out _ HLow.out) hB4, (HTk.out.blk.kept hY1).under hB4 htb⟩
      | true =>
        rw [had] at HMA
        have HX : Hid (stmS L = endS (a, b, c) R) := Lib.hid (by
          unfold stmS
          rw [hY.out]
          show (if addD a b c = true then _ else _) = _
          rw [had, if_pos rfl])
        clear had hY
        go_upto_region 14 with (go_at_call 42; refine HMA.out.mono ?_; rintro e y1 ⟨rfl, hY1⟩)
        have HTa := Lib.hid (ntTake_any tb 0 v R (Nat.zero_le _) hlR y1 (HTk.out.below hY1))
        have HM1 := Lib.hid (HM.out.go hY1)
        have HBR1 := Lib.hid (HBR.out.kept hY1)
        have HBT1 := Lib.hid (HBT.out.kept hY1)
        have hs1 := hY1.size
        clear HMA hY1 x0 x1 x2 x3 x4 x5 x6 x7 x8 HSf HBR HBT HM HTk
        go_upto_region 15 with (go_at_call 67; refine HTa.out.mono ?_; rintro e y2 ⟨v2, rfl, hT2, hM2, hl2⟩)
        rw [List.drop_zero] at hT2
        have HBR2 := Lib.hid (hM2.at_ HBR1.out (by omega))
        have HBT2 := Lib.hid (hM2.at_ HBT1.out (by omega))
        have HM2 := Lib.hid (HM1.out.trans hM2)
        have HL2 := Lib.hid (fun B h => hl2 B (HLw.out B h))
        have hs2 := hM2.size
        have HT2 := Lib.hid hT2
        clear HBR1 HBT1 HM1 hM2 hl2 HTa
        cases R with
        | nil =>
          have HXn : Hid (stmS L = .no []) := Lib.hid HX.out
          obtain ⟨p, cap, rfl⟩ : ∃ p cap, v2 = .slice p 0 cap := by
            rcases hT2.sl with ⟨rfl, _⟩ | ⟨g, o, cap, rfl, _⟩
            · exact ⟨_, _, rfl⟩
            · exact ⟨_, _, rfl⟩
          clear hT2 HX
          have k0 := HBR2.out.cell (j := 0) rfl
          have k1 := HBR2.out.cell (j := 1) rfl
          have k2 := HBR2.out.cell (j := 2) rfl
          have k3 := HBR2.out.cell (j := 3) rfl
          have k4 := HBR2.out.cell (j := 4) rfl
          have k5 := HBR2.out.cell (j := 5) rfl
          have k6 := HBR2.out.cell (j := 6) rfl
          have k7 := HBR2.out.cell (j := 7) rfl
          have k8 := HBR2.out.cell (j := 8) rfl
          have kf : ∀ j, y2.frozen? ⟨w.heap.size, j, none⟩ = false := fun j => HBR2.out.free j
          go_wp2_with fail
          refine bodyPost_ret (results_stm (p := 2) (u := 3) (v := 4) rfl _ _ w.heap.size zT zT zT rfl (block_set9 HBR2.out zT zT zT)) rfl ?_
          rw [HF.out, HXn.out]
          have hB4 : Below w.heap.size y2 (set9 y2 w.heap.size zT zT zT) := below_set9 (Below.refl _ _) (Nat.le_refl _) zT zT zT
          have hM4 : Moves tb w (set9 y2 w.heap.size zT zT zT) := HM2.out.set9 (Nat.le_refl _) zT zT zT
          exact ⟨hM4, _, _, rfl, HT2.out.sl.under (HL2.out _ HLow.out) hB4, HT2.out.blk.under hB4 htb⟩
        | cons x r =>
          obtain ⟨g, o, cap, rfl, hc1, hc2, hrow⟩ : ∃ g o cap, v2 = .slice (some ⟨g, o, none⟩) (List.length (x :: r)) cap ∧ List.length (x :: r) ≤ cap ∧ cap ≤ maxLen ∧ RowS y2 g o (x :: r) := by
            rcases hT2.sl with ⟨_, h⟩ | h
            · cases h
            · exact h
          have s0 := hrow.six (i := 0) (x := x) rfl
          rw [Nat.zero_mul, Nat.add_zero] at s0
          have q0 : y2.cell? ⟨g, o, none⟩ = some (.int .i64 x.kind) := s0 0 (by omega)
          have q1 : y2.cell? ⟨g, o + 1, none⟩ = some (.string (strOfNums x.text)) := s0 1 (by omega)
          have q2 : y2.cell? ⟨g, o + 2, none⟩ = some (.int .i64 x.tk) := s0 2 (by omega)
          have q3 : y2.cell? ⟨g, o + 3, none⟩ = some (.string (strOfNums x.tt)) := s0 3 (by omega)
          have q4 : y2.cell? ⟨g, o + 4, none⟩ = some (.string (strOfNums x.te)) := s0 4 (by omega)
          have q5 : y2.cell? ⟨g, o + 5, none⟩ = some (.int .i64 x.place) := s0 5 (by omega)
          have hmb : markB x.kind (bs (strOfNums x.text)) (bs ⟨#[46]⟩) = isEnd x := by
            unfold markB isEnd
            rw [bs_strOfNums (HGR.out x (by simp)).bt, show bs ⟨#[46]⟩ = [46] from rfl, Bool.eq_iff_iff]
            simp only [Bool.and_eq_true, beq_iff_eq, decide_eq_true_eq]
            constructor
            · rintro ⟨h1, h2⟩; exact ⟨by omega, h2⟩
            · rintro ⟨h1, h2⟩; exact ⟨by omega, h2⟩
          have HTb := Lib.hid (fun W (k : Below y2.heap.size y2 W) => ntTake_any tb 1 _ (x :: r) (by simp) hlR W (HT2.out.below k))
          have d0 : ((List.length (x :: r) : Int) == 0) = false := by simp <;> omega
          have l0 : (0 : Int) < (List.length (x :: r) : Int) := by simp <;> omega
          generalize hlen : List.length (x :: r) = len at *
          clear hlen hrow s0 hT2
          cases hme : isEnd x with
          | false =>
            rw [hme] at hmb
            have HMk := Lib.hid (markIs_at x.kind (strOfNums x.text) x.tk (strOfNums x.tt) (strOfNums x.te) x.place ⟨#[46]⟩ false hmb y2)
            have HXn : Hid (stmS L = .no (x :: r)) := Lib.hid (by rw [HX.out, endS, if_neg (by rw [hme]; decide)])
            clear HX hme hmb HTb
            go_wp2_with (go_at_call 14; refine HMk.out.mono ?_; rintro e y3 ⟨rfl, hY3⟩; have hbR3 := HBR2.out.kept hY3; have k0 := hbR3.cell (j := 0) rfl; have k1 := hbR3.cell (j := 1) rfl; have k2 := hbR3.cell (j := 2) rfl; have k3 := hbR3.cell (j := 3) rfl; have k4 := hbR3.cell (j := 4) rfl; have k5 := hbR3.cell (j := 5) rfl; have k6 := hbR3.cell (j := 6) rfl; have k7 := hbR3.cell (j := 7) rfl; have k8 := hbR3.cell (j := 8) rfl; have kf : ∀ j, y3.frozen? ⟨w.heap.size, j, none⟩ = false := fun j => hbR3.free j)
            refine bodyPost_ret (results_stm (p := 2) (u := 3) (v := 4) rfl _ _ w.heap.size zT zT zT rfl (block_set9 hbR3 zT zT zT)) rfl ?_
            rw [HF.out, HXn.out]
            have hB4 : Below w.heap.size y3 (set9 y3 w.heap.size zT zT zT) := below_set9 (Below.refl _ _) (Nat.le_refl _) zT zT zT
            have hM4 : Moves tb w (set9 y3 w.heap.size zT zT zT) := (HM2.out.go hY3).set9 (Nat.le_refl _) zT zT zT
            exact ⟨hM4, _, _, rfl, (HT2.out.sl.below hY3).under (HL2.out _ HLow.out) hB4, (HT2.out.blk.kept hY3).under hB4 htb⟩
          | true =>
            rw [hme] at hmb
            have HMk := Lib.hid (markIs_at x.kind (strOfNums x.text) x.tk (strOfNums x.tt) (strOfNums x.te) x.place ⟨#[46]⟩ true hmb y2)
            have HXn : Hid (stmS L = .yes (a, b, c) r) := Lib.hid (by rw [HX.out, endS, if_pos hme])
            clear HX hme hmb
            go_upto_region 17 with (go_at_call 14; refine HMk.out.mono ?_; rintro e y3 ⟨rfl, hY3⟩)
            have HTc := Lib.hid (HTb.out y3 hY3)
            have HM3 := Lib.hid (HM2.out.go hY3)
            have HBR3 := Lib.hid (HBR2.out.kept hY3)
            have HBT3 := Lib.hid (HBT2.out.kept hY3)
            have hs3 := hY3.size
            clear hY3 HMk HTb q0 q1 q2 q3 q4 q5
            go_wp2_with (go_at_call 67; refine HTc.out.mono ?_; rintro e y4 ⟨v4, rfl, hT4, hM4, hl4⟩; have hbT4 := (hM4.at_ HBT3.out (by omega)); have hbR4 := (hM4.at_ HBR3.out (by omega)); have x0 := hbT4.cell (j := 0) rfl; have x1 := hbT4.cell (j := 1) rfl; have x2 := hbT4.cell (j := 2) rfl; have x3 := hbT4.cell (j := 3) rfl; have x4 := hbT4.cell (j := 4) rfl; have x5 := hbT4.cell (j := 5) rfl; have x6 := hbT4.cell (j := 6) rfl; have x7 := hbT4.cell (j := 7) rfl; have x8 := hbT4.cell (j := 8) rfl; have k0 := hbR4.cell (j := 0) rfl; have k1 := hbR4.cell (j := 1) rfl; have k2 := hbR4.cell (j := 2) rfl; have k3 := hbR4.cell (j := 3) rfl; have k4 := hbR4.cell (j := 4) rfl; have k5 := hbR4.cell (j := 5) rfl; have k6 := hbR4.cell (j := 6) rfl; have k7 := hbR4.cell (j := 7) rfl; have k8 := hbR4.cell (j := 8) rfl; have kf : ∀ j, y4.frozen? ⟨w.heap.size, j, none⟩ = false := fun j => hbR4.free j)
            refine bodyPost_ret (results_stm (p := 2) (u := 3) (v := 4) rfl _ _ w.heap.size a b c rfl (block_set9 hbR4 a b c)) rfl ?_
            rw [HF.out, HXn.out]
            have hB4 : Below w.heap.size y4 (set9 y4 w.heap.size a b c) := below_set9 (Below.refl _ _) (Nat.le_refl _) a b c
            have hM5 : Moves tb w (set9 y4 w.heap.size a b c) := (HM3.out.trans hM4).set9 (Nat.le_refl _) a b c
            exact ⟨hM5, v4, rfl, hT4.under (hl4 _ (HL2.out _ HLow.out)) htb hB4, fun B h => hl4 B (HL2.out B h)⟩
end Go.Proofs.YtachijkjcbajmaaGreatDoor
