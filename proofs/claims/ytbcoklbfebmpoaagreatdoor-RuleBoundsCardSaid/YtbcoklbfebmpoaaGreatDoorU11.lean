/-
  WHAT THE PROOF STANDS ON, a part of it: UtfValid, UtfText, TermMath.
-/
import Derived.Test.YtbcoklbfebmpoaaGreatDoorU9
import Derived.RangeFuncBox
import Derived.Test.YtbcoklbfebmpoaaGreatDoorU1
/-
  CONTRACTS OF utf.Valid AND utf.Len.
-/

namespace Go.Proofs.YtbcoklbfebmpoaaGreatDoor
open Go.RowKit Go.Shelf
open Utf
attribute [local go_sem] Oper.semAt_some

theorem runes_stops (n : Nat) (hn : 1 ≤ n) (Bs : Nat) (s : ByteArray) (hs : s.size ≤ 1000000000000) (w : World) (hBs : w.heap[Bs]? = some (.cells #[.string s] 9 (0, 0))) :
    SeqStopsK Fence.wide n Tryz.prog 160 #[.pointer (some ⟨Bs, 0, none⟩)] runeVals (KeepsBlock Bs) (fun ys => ys = allR (bs s)) (fun pre => pre <+: allR (bs s)) s.size w :=
  fun l J Jx W hW _ _ hY h0 => iter_in n hn l Bs s hs J Jx (fun pre x W' hJ hp => hY pre x W' hJ (by
    have h1 := hp.length_le
    have h2 : (allR (bs s)).length ≤ (bs s).length := restR_length _ _ _
    rw [bs_length] at h2
    rw [List.length_append] at h1
    simp at h1
    omega)) W ((hW.block Bs (lt_of_block hBs)).trans hBs) h0

theorem keeps_t {B : Nat} {a b c : World} (h : KeepsBlock B a b) (k : KeepsBlock B b c) : KeepsBlock B a c := Eq.trans k h
theorem keeps_b {B : Nat} {w : World} (hB : B < w.heap.size) (W : World) (l : Nat) (o o' : Obj) (hl : w.heap.size ≤ l) (_ : W.heap[l]? = some o) (_ : o.isCells = false) (_ : o.isWalk = false) : KeepsBlock B W (W.putObj l o') :=
  World.putObj_heap_other (by omega)

namespace Utf
/-- Where the last rune ends. -/
def endR (l : List RuneAt) : Nat := match l.getLast? with | none => 0 | some x => x.1.1 + rsize x.1.2
theorem endR_snoc (l : List RuneAt) (x : RuneAt) : endR (l ++ [x]) = x.1.1 + rsize x.1.2 := by simp [endR]
/-- Well made? -/
def valid (l : List Int) : Bool := ((endR (allR l) : Int) == (l.length : Int))
end Utf

set_option maxRecDepth 100000 in
set_option maxHeartbeats 2000000 in
theorem valid_in (n : Nat) (hn : 3 ≤ n) (s : ByteArray) (hs : s.size ≤ 1000000000000) (w : World) :
    CallsIn Fence.wide n Tryz.prog 124 #[.string s] w fun e W' => e = .returned (.bool (valid (bs s))) ∧ Below w.heap.size w W' := by
  have h1 : 1 ≤ n := by omega
  refine callsIn_of_wp_marks Tryz.func124 rfl trivial ?_ rfl
  simp only [Tryz.ntmps124, List.size_toArray, List.length_cons, List.length_nil, Nat.reduceAdd, Nat.reduceSub, Array.replicate_succ, Array.replicate_zero, List.push_toArray, List.append_toArray, List.nil_append, List.cons_append]
  gi_wp2_with (refine ⟨trivial, ?_⟩; gi_at_call 148; refine (runes_in Fence.wide (n - 1) trivial rfl _ _).mono ?_; rintro e w' ⟨rfl, rfl⟩)
  have bS := Boxed.new w 3 (.int .i64 0)
  have bN := Boxed.new (w.alloc (.cells #[.int .i64 0] 3)) 9 (.string s)
  rw [World.size_alloc] at bN
  have hB0 : Below w.heap.size w ((w.alloc (.cells #[.int .i64 0] 3)).alloc (.cells #[.string s] 9)) := ((Below.refl _ w).alloc (Nat.le_refl _) _).alloc (by simp) _
  refine wpIn_rangeFunc_ownG rfl h1 (gf := 160) (lb := #[.pointer (some ⟨w.heap.size + 1, 0, none⟩)]) rfl trivial (enters_of Tryz.func160 (by kernel_rfl) rfl)
    (runes_stops (n - 1) (by omega) (w.heap.size + 1) s hs _ bN) keeps_t (keeps_b (by simp)) (Below.refl _ _) (fun _ => rfl)
    (fun pre W => (W.cell? ⟨w.heap.size, 0, none⟩ = some (.int .i64 (endR pre : Nat)) ∧ W.frozen? ⟨w.heap.size, 0, none⟩ = false) ∧ Below w.heap.size w W)
    (fun _ _ _ => False)
    (OwnFrom.and (Own.from (fun s A B row hs hg hr => ⟨cell_kept hs.1 hg hr, (frozen_kept hs.1 hg hr).trans hs.2⟩) _) (ownFrom_below (Nat.le_refl _) (by simp; omega)))
    (fun _ _ _ _ _ hs _ _ => hs)
    ⟨⟨(bS.alloc _).cell, (bS.alloc _).frozen⟩, hB0⟩
    (fun x => { tmps := #[.string s, undef, .bool false, .pointer (some ⟨w.heap.size, 0, none⟩), .int .i64 (x.1.1 : Int), .int .i64 x.1.2, .string s, .func (.func 160) #[] #[.pointer (some ⟨w.heap.size + 1, 0, none⟩)], .int .i64 (x.1.1 : Int), .int .i64 x.1.2, undef, undef, undef, undef, undef, undef, undef, undef], defers := [] }) ?assign ?body ?done ?stop
  case assign =>
    intro l x W K hK
    gi_wp2
    exact hK
  case body =>
    rintro l pre x W ⟨⟨hc, hf⟩, hB⟩ _
    have hp := x.2.1
    have hz := rsize_le x.1.2
    have h3 : 1 ≤ n - 1 - 1 := by omega
    gi_wp2_with (refine ⟨trivial, ?_⟩; gi_at_call 133; refine (CallsIn.inRound l (callsIn_wide.2 (size_any _ _))).mono ?_; rintro e w' ⟨rfl, rfl⟩)
    exact ⟨(KeepsOthers.setCell _ _ _).from _, Below.heap_setCell _ _ _ _ (by simp), ⟨by rw [endR_snoc]; exact World.cell?_setCell_same' _ _ _ (by rw [hc]; rfl), by rw [World.frozen?_setCell]; exact hf⟩, hB.setCell (p := ⟨w.heap.size, 0, none⟩) (Nat.le_refl _) _⟩
  case done =>
    rintro D ys W hD rfl ⟨⟨hc, hf⟩, hB⟩ hK
    gi_wp2
    refine ⟨by simp, .inl ⟨_, _, rfl, run_takeDeferred hK, ?_⟩⟩
    exact ⟨_, results_tmp rfl _ _ _, by unfold valid; rw [bs_length]; rfl, hB.trans (belowK_b (w := w) (Nat.le_refl _) W D _ _ (by simp at hD; omega) hK rfl rfl)⟩
  case stop =>
    rintro D c pre W _ _ h _
    exact h.elim

theorem valid_any (s : ByteArray) (w : World) (hs : s.size ≤ 1000000000000) :
    Calls Tryz.prog 124 #[.string s] w fun e W' => e = .returned (.bool (valid (bs s))) ∧ Below w.heap.size w W' := callsIn_wide.1 (valid_in 3 (Nat.le_refl _) s hs w)
end Go.Proofs.YtbcoklbfebmpoaaGreatDoor

/-
  PLAIN MATHEMATICS: a text that is well made is that of its runes; joined and cut.
-/

namespace Go.Proofs.YtbcoklbfebmpoaaGreatDoor.Utf

/-- Runes with their places, one behind the other, from p on. -/
def posR : Nat → List Int → List (Nat × Int)
  | _, [] => []
  | p, r :: rs => (p, r) :: posR (p + rsize r) rs

theorem encs_cons (r : Int) (rs : List Int) : encs (r :: rs) = enc r ++ encs rs := by simp [encs]
theorem encs_append (a b : List Int) : encs (a ++ b) = encs a ++ encs b := by simp [encs]
theorem AllMay.tail {r : Int} {rs : List Int} (h : AllMay (r :: rs)) : AllMay rs := fun x hx => h x (by simp [hx])
theorem AllMay.head {r : Int} {rs : List Int} (h : AllMay (r :: rs)) : May r := h r (by simp)
theorem AllMay.append {a b : List Int} (h : AllMay a) (k : AllMay b) : AllMay (a ++ b) := fun x hx => (List.mem_append.1 hx).elim (h x) (k x)

/-- What is read of runes' bytes and what follows. -/
theorem rest_encs : ∀ (rs : List Int) (p : Nat) (b : List Int), AllMay rs → rest p (encs rs ++ b) = posR p rs ++ rest (p + (encs rs).length) b
  | [], p, b, _ => by simp [encs, posR]
  | r :: rs, p, b, h => by
    have hd : dec (encs (r :: rs) ++ b) = (r, rsize r) := by
      rw [encs_cons, List.append_assoc]; exact dec_enc h.head _
    have h0 : (dec (encs (r :: rs) ++ b)).2 ≠ 0 := by
      rw [hd]; have := rsize_pos.2 h.head; simp; omega
    rw [rest_step h0, hd]
    have e : (encs (r :: rs) ++ b).drop (rsize r) = encs rs ++ b := by
      rw [encs_cons, List.append_assoc, List.drop_append_of_le_length (by rw [rsize_enc h.head]; exact Nat.le_refl _), List.drop_of_length_le (by rw [rsize_enc h.head]; exact Nat.le_refl _), List.nil_append]
    dsimp only
    rw [e, rest_encs rs _ b h.tail, posR, encs_cons, List.length_append, ← rsize_enc h.head, Nat.add_assoc]
    rfl

theorem rest_none {p : Nat} {b : List Int} (h : (dec b).2 = 0) : rest p b = [] := rest_stop h
theorem dec_nil : (dec []).2 = 0 := rfl

theorem rest_of {rs b : List Int} (p : Nat) (h : AllMay rs) (hb : (dec b).2 = 0) : rest p (encs rs ++ b) = posR p rs := by
  rw [rest_encs rs p b h, rest_none hb, List.append_nil]

/-- Every text is runes' bytes and a rest that begins with none. -/
theorem split_text : ∀ (n : Nat) (l : List Int), l.length ≤ n → ∃ rs b, AllMay rs ∧ l = encs rs ++ b ∧ (dec b).2 = 0
  | 0, l, h => ⟨[], l, by simp [AllMay], by simp [encs], by
      have : l = [] := List.eq_nil_of_length_eq_zero (by omega)
      rw [this]; rfl⟩
  | n + 1, l, h => by
    by_cases h0 : (dec l).2 = 0
    · exact ⟨[], l, by simp [AllMay], by simp [encs], h0⟩
    · obtain ⟨a, b, t, ht⟩ := dec_some (r := (dec l).1) (n := (dec l).2) rfl h0
      have hl : t.length ≤ n := by
        have := congrArg List.length ht
        rw [List.length_append, ← rsize_enc a] at this
        omega
      obtain ⟨rs, b', h1, h2, h3⟩ := split_text n t hl
      exact ⟨(dec l).1 :: rs, b', by
        intro r hr
        rcases List.mem_cons.1 hr with rfl | hr
        · exact a
        · exact h1 r hr, by rw [encs_cons, List.append_assoc, ← h2, ht], h3⟩

theorem posR_snd : ∀ (rs : List Int) (p : Nat), (posR p rs).map (·.2) = rs
  | [], _ => rfl
  | r :: rs, p => by rw [posR, List.map_cons, posR_snd rs]

/-- Just one way. -/
theorem split_unique {rs b rs' b' : List Int} (h : AllMay rs) (h' : AllMay rs') (hb : (dec b).2 = 0) (hb' : (dec b').2 = 0) (e : encs rs ++ b = encs rs' ++ b') : rs = rs' ∧ b = b' := by
  have e1 : posR 0 rs = posR 0 rs' := by rw [← rest_of 0 h hb, e, rest_of 0 h' hb']
  have e2 : rs = rs' := by rw [← posR_snd rs 0, e1, posR_snd]
  subst e2
  exact ⟨rfl, List.append_cancel_left e⟩

def endP (l : List (Nat × Int)) : Nat := match l.getLast? with | none => 0 | some x => x.1 + rsize x.2
theorem endR_map (l : List RuneAt) : endR l = endP (l.map (·.1)) := by
  unfold endR endP
  rw [List.getLast?_map]
  cases l.getLast? <;> rfl
theorem endP_posR : ∀ (rs : List Int) (p : Nat), AllMay rs → endP (posR p rs) = if rs = [] then 0 else p + (encs rs).length
  | [], _, _ => rfl
  | [r], p, h => by simp [posR, endP, encs, rsize_enc h.head]
  | r :: r' :: rs, p, h => by
    have ih := endP_posR (r' :: rs) (p + rsize r) h.tail
    rw [if_neg (by simp)] at ih ⊢
    rw [encs_cons, List.length_append, ← rsize_enc h.head, ← Nat.add_assoc, ← ih]
    simp [posR, endP]

theorem allR_val {l : List Int} (hl : l.length ≤ 1000000000000) : (allR l).map (·.1) = rest 0 l := restR_val _ _ _ (by omega)

/-- Well made. -/
theorem valid_iff {l : List Int} (hl : l.length ≤ 1000000000000) : valid l = true ↔ ∃ rs, AllMay rs ∧ l = encs rs := by
  unfold valid
  rw [beq_iff_eq, endR_map, allR_val hl]
  obtain ⟨rs, b, h1, rfl, h3⟩ := split_text _ l (Nat.le_refl _)
  rw [rest_of 0 h1 h3, endP_posR rs 0 h1]
  constructor
  · intro h
    refine ⟨rs, h1, ?_⟩
    have hb : b = [] := by
      apply List.eq_nil_of_length_eq_zero
      rw [List.length_append] at h
      split at h
      · subst_vars; simp [encs] at h; omega
      · omega
    rw [hb, List.append_nil]
  · rintro ⟨rs', h1', e⟩
    obtain ⟨rfl, rfl⟩ := split_unique h1 h1' h3 dec_nil (by rw [e, List.append_nil])
    rw [List.append_nil]
    split
    · subst_vars; simp [encs]
    · omega

theorem allR_encs {rs : List Int} (h : AllMay rs) (hl : (encs rs).length ≤ 1000000000000) : (allR (encs rs)).map (·.1) = posR 0 rs := by
  rw [allR_val hl]
  have := rest_of (b := []) 0 h dec_nil
  rwa [List.append_nil] at this

/-- Joined. -/
theorem valid_join {a b : List Int} (ha : a.length ≤ 100000) (hb : b.length ≤ 100000) (h : valid a = true) : valid (a ++ b) = valid b := by
  obtain ⟨ra, h1, rfl⟩ := (valid_iff (by omega)).1 h
  rw [Bool.eq_iff_iff, valid_iff (by rw [List.length_append]; omega), valid_iff (by omega)]
  constructor
  · rintro ⟨rs, h2, e⟩
    obtain ⟨rb, b', h3, rfl, h4⟩ := split_text _ b (Nat.le_refl _)
    rw [← List.append_assoc, ← encs_append] at e
    obtain ⟨_, rfl⟩ := split_unique (h1.append h3) h2 h4 dec_nil (by rw [e, List.append_nil])
    exact ⟨rb, h3, by rw [List.append_nil]⟩
  · rintro ⟨rb, h2, rfl⟩
    exact ⟨ra ++ rb, h1.append h2, by rw [encs_append]⟩

end Go.Proofs.YtbcoklbfebmpoaaGreatDoor.Utf

/-
  PLAIN MATHEMATICS: which runes may stand where; what stands for a rune in quotes.
-/

namespace Go.Proofs.YtbcoklbfebmpoaaGreatDoor.Term
open Utf

def small (c : Int) : Bool := decide (97 ≤ c) && decide (c ≤ 122)
def digit (c : Int) : Bool := decide (48 ≤ c) && decide (c ≤ 57)
def smallDigit (c : Int) : Bool := small c || digit c
def letter (c : Int) : Bool := small c || (decide (65 ≤ c) && decide (c ≤ 90))
def letterDigit (c : Int) : Bool := letter c || digit c
def notIRI : List Int := [60, 62, 34, 123, 125, 124, 94, 96, 92]
def iriC (c : Int) : Bool := decide (32 < c) && !notIRI.contains c

/-- A predicate that is the same from 128 on. -/
def High (P : Int → Bool) (x : Bool) : Prop := ∀ c, 128 ≤ c → P c = x
theorem small_high : High small false := fun c h => by simp [small]; omega
theorem digit_high : High digit false := fun c h => by simp [digit]; omega
theorem smallDigit_high : High smallDigit false := fun c h => by rw [smallDigit, small_high c h, digit_high c h]; rfl
theorem letter_high : High letter false := fun c h => by simp [letter, small]; omega
theorem letterDigit_high : High letterDigit false := fun c h => by rw [letterDigit, letter_high c h, digit_high c h]; rfl
theorem iriC_high : High iriC true := fun c h => by simp [iriC, notIRI]; omega

theorem enc_high {r : Int} (h : May r) (hr : 128 ≤ r) : ∀ c ∈ enc r, 128 ≤ c := by
  intro c hc
  obtain ⟨h0, h1, h2⟩ := h
  unfold enc at hc
  split at hc
  · omega
  · split at hc
    · simp at hc; omega
    · split at hc
      · simp at hc; omega
      · simp at hc; omega
theorem enc_ne (r : Int) : enc r ≠ [] := by
  unfold enc
  repeat' split
  all_goals simp
theorem enc_low {r : Int} (h1 : r ≤ 127) : enc r = [r] := by
  unfold enc; rw [if_pos h1]

/-- Over a rune's bytes such a predicate holds just where it holds of the rune. -/
theorem all_enc {P : Int → Bool} {x : Bool} (hP : High P x) {r : Int} (h : May r) : (enc r).all P = P r := by
  by_cases h1 : r ≤ 127
  · rw [enc_low h1]; simp
  · have hh := enc_high h (by omega)
    rw [hP r (by omega)]
    cases e : enc r with
    | nil => exact absurd e (enc_ne r)
    | cons c t =>
      rw [e] at hh
      have : ∀ d ∈ c :: t, P d = x := fun d hd => hP d (hh d hd)
      cases x with
      | true => rw [List.all_eq_true]; exact this
      | false => simp [this c (by simp)]

theorem all_encs {P : Int → Bool} {x : Bool} (hP : High P x) : ∀ {rs : List Int}, AllMay rs → (encs rs).all P = rs.all P
  | [], _ => rfl
  | r :: rs, h => by
    rw [encs_cons, List.all_append, all_enc hP h.head, all_encs hP h.tail, List.all_cons]

/-- Whether each rune may stand there, and the text is well made. -/
def eachB (P : Int → Bool) (l : List Int) : Bool := (allR l).all (fun x => P x.1.2) && valid l
theorem eachB_eq {P : Int → Bool} {x : Bool} (hP : High P x) {l : List Int} (hl : l.length ≤ 1000000000000) : eachB P l = (valid l && l.all P) := by
  unfold eachB
  cases e : valid l with
  | false => simp
  | true =>
    obtain ⟨rs, hrs, rfl⟩ := (valid_iff hl).1 e
    rw [all_encs hP hrs]
    have h1 := congrArg (fun l => l.all fun y : Nat × Int => P y.2) (allR_encs hrs hl)
    simp only [List.all_map] at h1
    have h2 : (posR 0 rs).all (fun y => P y.2) = rs.all P := by
      conv => rhs; rw [← posR_snd rs 0]
      rw [List.all_map]; rfl
    simp only [Bool.true_and, Bool.and_true]
    rw [← h2, ← h1]
    rfl

/-- Text of bytes below 128 is well made. -/
theorem valid_ascii {l : List Int} (hl : l.length ≤ 1000000000000) (h : ∀ c ∈ l, 0 ≤ c ∧ c ≤ 127) : valid l = true := by
  refine (valid_iff hl).2 ⟨l, fun c hc => ?_, ?_⟩
  · have := h c hc; unfold May; omega
  · clear hl
    induction l with
    | nil => rfl
    | cons c t ih =>
      rw [encs_cons, enc_low (h c (by simp)).2, ← ih (fun d hd => h d (by simp [hd]))]
      rfl
theorem eachB_low {P : Int → Bool} (hP : High P false) {l : List Int} (hl : l.length ≤ 1000000000000) (hb : ∀ c ∈ l, IsByte c) : eachB P l = l.all P := by
  rw [eachB_eq hP hl]
  cases e : l.all P with
  | false => simp
  | true =>
    rw [valid_ascii hl]
    · rfl
    · intro c hc
      have h1 := List.all_eq_true.1 e c hc
      have h2 := hb c hc
      unfold IsByte at h2
      by_cases h3 : 128 ≤ c
      · rw [hP c h3] at h1; cases h1
      · omega

/-- What stands for a rune in quotes; nothing if it stands for itself. -/
def hex (n : Int) : Int := if n ≤ 9 then 48 + n else 55 + n
def esc (r : Int) : List Int :=
  if r = 34 then [92, 34] else if r = 92 then [92, 92] else if r = 8 then [92, 98] else if r = 9 then [92, 116] else if r = 10 then [92, 110]
  else if r = 12 then [92, 102] else if r = 13 then [92, 114] else if r < 32 ∨ r = 127 then [92, 117, 48, 48, hex (r / 16), hex (r % 16)] else []
/-- .. with what stands for itself. -/
def shown (c : Int) : List Int := if esc c = [] then [c] else esc c
def quoteL (l : List Int) : List Int := 34 :: (l.flatMap shown ++ [34])
end Go.Proofs.YtbcoklbfebmpoaaGreatDoor.Term

