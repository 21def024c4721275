/-
  WHAT TableGrows GOES THROUGH, as plain mathematics: the table and the rows to come, after each round.
-/
import Derived.Test.YtnmimagcmmdolaaTbMatches
namespace Go.Proofs.Ytnmimagcmmdolaa
open Go.RowKit
set_option linter.unusedVariables false

def zN (n : Nat) : Nat := if n = 0 then 1 else 0
def zsN (q : RowN) : Nat := zN q.1 + zN q.2.1 + zN q.2.2
def newN (q : RowN) (L : Nat) : RowN := (if q.1 = 0 then L + 1 else q.1, if q.2.1 = 0 then L + zN q.1 + 1 else q.2.1, if q.2.2 = 0 then L + zN q.1 + zN q.2.1 + 1 else q.2.2)
def lastN (q : RowN) (k : Nat) : Nat := 1073741824 + zsN q * k
theorem lastN_succ (q : RowN) (k : Nat) : lastN q (k + 1) = lastN q k + zsN q := by
  unfold lastN
  rw [Nat.mul_succ]
  omega
theorem zN_le (n : Nat) : zN n ≤ 1 := by unfold zN; split <;> omega
def stepG (q : RowN) (k : Nat) (s : List EntN × List Nat) : List EntN × List Nat :=
  (match s.2[k + 1]? with
    | some n => modR (addR s.1 (newN q (lastN q k)) 2) (n : Int) (fun x => andNotB x 2)
    | none => addR s.1 (newN q (lastN q k)) 2, s.2.eraseIdx (k + 1))
def growG (q : RowN) (R0 : List EntN) (ns : List Nat) : Nat → List EntN × List Nat
  | 0 => (R0, ns)
  | k + 1 => stepG q k (growG q R0 ns k)
theorem growG_rows (q : RowN) (R0 : List EntN) (ns : List Nat) : ∀ k, (∀ j, j ≤ k → (growG q R0 ns k).2[j]? = ns[2 * j]?) ∧ ∀ j, k ≤ j → (growG q R0 ns k).2[j]? = ns[j + k]?
  | 0 => ⟨fun j hj => by obtain rfl : j = 0 := by omega
                         rfl, fun j hj => rfl⟩
  | k + 1 => by
    obtain ⟨h1, h2⟩ := growG_rows q R0 ns k
    have e : ∀ j, (growG q R0 ns (k + 1)).2[j]? = if j < k + 1 then (growG q R0 ns k).2[j]? else (growG q R0 ns k).2[j + 1]? := fun j => by
      show ((growG q R0 ns k).2.eraseIdx (k + 1))[j]? = _
      rw [List.getElem?_eraseIdx]
    constructor
    · intro j hj
      rw [e]
      split
      · exact h1 j (by omega)
      · obtain rfl : j = k + 1 := by omega
        rw [h2 _ (by omega)]
        congr 1
        omega
    · intro j hj
      rw [e, if_neg (by omega), h2 _ (by omega)]
      congr 1
      omega
theorem growG_mem (q : RowN) (R0 : List EntN) (ns : List Nat) : ∀ k n, n ∈ (growG q R0 ns k).2 → n ∈ ns
  | 0, n, h => h
  | k + 1, n, h => growG_mem q R0 ns k n (List.mem_of_mem_eraseIdx h)
theorem growG_few (q : RowN) (R0 : List EntN) (ns : List Nat) : ∀ k, (growG q R0 ns k).2.length ≤ ns.length
  | 0 => Nat.le_refl _
  | k + 1 => by
    have := growG_few q R0 ns k
    have h : (growG q R0 ns (k + 1)).2.length = ((growG q R0 ns k).2.eraseIdx (k + 1)).length := rfl
    rw [h, List.length_eraseIdx]
    split <;> omega
theorem addR_len2 (R : List EntN) (r : RowN) (b : Nat) : (addR R r b).length ≤ R.length + 1 ∧ R.length ≤ (addR R r b).length := by
  unfold addR
  split
  · omega
  · split
    · rw [List.length_set]; omega
    · rw [List.length_append]; exact ⟨Nat.le_refl _, by simp⟩
theorem modR_len2 (R : List EntN) (n : Int) (f : Nat → Nat) : (modR R n f).length = R.length := by
  unfold modR
  split
  · split
    · rw [List.length_set]
    · rfl
  · rfl
theorem growG_len (q : RowN) (R0 : List EntN) (ns : List Nat) : ∀ k, (growG q R0 ns k).1.length ≤ R0.length + k
  | 0 => Nat.le_refl _
  | k + 1 => by
    have h := growG_len q R0 ns k
    have h2 := (addR_len2 (growG q R0 ns k).1 (newN q (lastN q k)) 2).1
    show (match (growG q R0 ns k).2[k + 1]? with
      | some n => modR (addR (growG q R0 ns k).1 (newN q (lastN q k)) 2) (n : Int) (fun x => andNotB x 2)
      | none => addR (growG q R0 ns k).1 (newN q (lastN q k)) 2).length ≤ _
    split
    · rw [modR_len2]; omega
    · omega
theorem or22 : orB 2 2 = 2 := by decide +kernel
theorem or02 : orB 0 2 = 2 := by decide +kernel
theorem nand22 : andNotB 2 2 = 0 := by decide +kernel
theorem and22 : andB 2 2 = 2 := by decide +kernel
theorem and02 : andB 0 2 = 0 := by decide +kernel
/-- A table as the law begins with. -/
structure StartG (R : List EntN) : Prop where
  two : ∀ x ∈ R, x.2 = 2
  nz : ∀ x ∈ R, okLook x.1
  low : ∀ x ∈ R, x.1.1 < 1073741824 ∧ x.1.2.1 < 1073741824 ∧ x.1.2.2 < 1073741824
  nod : (R.map (·.1)).Nodup
theorem StartG.nil : StartG [] := ⟨fun x h => absurd h List.not_mem_nil, fun x h => absurd h List.not_mem_nil, fun x h => absurd h List.not_mem_nil, List.nodup_nil⟩
theorem StartG.add {R : List EntN} (h : StartG R) (r : RowN) (hr : r.1 < 1073741824 ∧ r.2.1 < 1073741824 ∧ r.2.2 < 1073741824) :
    StartG (addR R r 2) ∧ ((addR R r 2 = R ++ [(r, 2)] ∧ addV R r 2 = #[.int .i64 (R.length : Int), .bool true]) ∨ (addR R r 2 = R ∧ ∃ v, addV R r 2 = #[.int .i64 v, .bool false])) := by
  by_cases hok : okLook r
  · cases hn : numF R r with
    | some n =>
      obtain ⟨b, hb⟩ := numF_some hn
      have hb2 : b = 2 := h.two _ (List.mem_of_getElem? hb)
      subst hb2
      have hd : R.getD n (r, 0) = (r, 2) := by rw [List.getD_eq_getElem?_getD, hb]; rfl
      have e : addR R r 2 = R := by
        unfold addR
        rw [if_neg (by simp [hok]), hn]
        show R.set n (r, orB (R.getD n (r, 0)).2 2) = R
        rw [hd, or22]
        apply List.ext_getElem?
        intro j
        rw [List.getElem?_set]
        split
        · rename_i hj
          subst hj
          rw [if_pos (List.getElem?_eq_some_iff.1 hb).1, hb]
        · rfl
      refine ⟨by rw [e]; exact h, .inr ⟨e, (n : Int), ?_⟩⟩
      unfold addV
      rw [if_neg (by simp [hok]), hn]
      show #[Value.int .i64 (n : Int), .bool (decide ((R.getD n (r, 0)).2 = 0))] = _
      rw [hd]
      rfl
    | none =>
      have e : addR R r 2 = R ++ [(r, 2)] := by
        unfold addR
        rw [if_neg (by simp [hok]), hn]
        show R ++ [(r, orB 0 2)] = _
        rw [or02]
      have hnm := numF_none hn
      refine ⟨?_, .inl ⟨e, ?_⟩⟩
      · rw [e]
        exact {
          two := fun x hx => by rcases List.mem_append.1 hx with hx | hx
                                · exact h.two x hx
                                · rw [List.mem_singleton.1 hx]
          nz := fun x hx => by rcases List.mem_append.1 hx with hx | hx
                               · exact h.nz x hx
                               · rw [List.mem_singleton.1 hx]; exact hok
          low := fun x hx => by rcases List.mem_append.1 hx with hx | hx
                                · exact h.low x hx
                                · rw [List.mem_singleton.1 hx]; exact hr
          nod := by
            rw [List.map_append, List.map_singleton]
            refine List.nodup_append.2 ⟨h.nod, List.nodup_cons.2 ⟨List.not_mem_nil, List.nodup_nil⟩, fun a ha b hb e => hnm ?_⟩
            have hb2 : b = r := List.mem_singleton.1 hb
            rw [← hb2, ← e]
            exact ha }
      · unfold addV
        rw [if_neg (by simp [hok]), hn]
  · have e : addR R r 2 = R := if_pos (.inr hok)
    exact ⟨by rw [e]; exact h, .inr ⟨e, -1, if_pos (.inr hok)⟩⟩
abbrev candA (R : List EntN) (q : RowN) : List Nat := candR R q 0 (R.length : Int)
theorem candA_eq (R : List EntN) (q : RowN) : candA R q = (List.range R.length).filter fun n => fitB q ((R.map (·.1)).getD n (0, 0, 0)) := by
  unfold candA candR
  apply List.filter_congr
  intro n hn
  rw [List.mem_range] at hn
  have h1 : decide ((0 : Int) ≤ (n : Int)) = true := by simp
  have h2 : decide ((n : Int) < (R.length : Int)) = true := by simp; omega
  rw [h1, h2]
  rfl
theorem candA_snoc (R : List EntN) (q r : RowN) (b : Nat) : candA (R ++ [(r, b)]) q = candA R q ++ if fitB q r = true then [R.length] else [] := by
  rw [candA_eq, candA_eq, List.length_append, List.length_singleton, List.range_succ, List.filter_append]
  congr 1
  · apply List.filter_congr
    intro n hn
    rw [List.mem_range] at hn
    rw [List.getD_eq_getElem?_getD, List.getD_eq_getElem?_getD, List.map_append, List.getElem?_append_left (by rw [List.length_map]; exact hn)]
  · rw [List.filter_cons]
    have : ((R ++ [(r, b)]).map (·.1)).getD R.length (0, 0, 0) = r := by
      rw [List.getD_eq_getElem?_getD, List.getElem?_map, List.getElem?_append_right (Nat.le_refl _), Nat.sub_self]
      rfl
    rw [this]
    rfl
theorem candA_at {R : List EntN} {q : RowN} {i n : Nat} (h : (candA R q)[i]? = some n) : ∃ x, R[n]? = some x ∧ fitB q x.1 = true := by
  have hm := List.mem_of_getElem? h
  rw [candA_eq, List.mem_filter, List.mem_range] at hm
  obtain ⟨h1, h2⟩ := hm
  refine ⟨R[n], List.getElem?_eq_getElem h1, ?_⟩
  rw [List.getD_eq_getElem?_getD, List.getElem?_map, List.getElem?_eq_getElem h1] at h2
  exact h2
theorem candA_nod (R : List EntN) (q : RowN) : (candA R q).Nodup := by
  rw [candA_eq]
  exact List.Pairwise.filter _ List.nodup_range
theorem candA_len (R : List EntN) (q : RowN) : (candA R q).length ≤ R.length := by
  rw [candA_eq]
  have := List.length_filter_le (fun n => fitB q ((R.map (·.1)).getD n (0, 0, 0))) (List.range R.length)
  rw [List.length_range] at this
  exact this
theorem at_inj {l : List Nat} (h : l.Nodup) {i j n : Nat} (hi : l[i]? = some n) (hj : l[j]? = some n) : i = j := by
  obtain ⟨h1, h2⟩ := List.getElem?_eq_some_iff.1 hi
  obtain ⟨h3, h4⟩ := List.getElem?_eq_some_iff.1 hj
  have e1 := h.idxOf_getElem i h1
  have e2 := h.idxOf_getElem j h3
  rw [h2] at e1
  rw [h4] at e2
  exact e1.symm.trans e2
/-- Bits of the one that stands there, after so many rounds. -/
def cutB (i k : Nat) : Nat := if i % 2 = 1 ∧ i < 2 * k then 0 else 2
/-- The number at the first place that the look leaves free. -/
def zcN (q r : RowN) : Nat := if q.1 = 0 then r.1 else if q.2.1 = 0 then r.2.1 else r.2.2
theorem zc_new {q : RowN} (hz : 0 < zsN q) (L : Nat) : zcN q (newN q L) = L + 1 := by
  unfold zsN zN at hz
  unfold zcN newN zN
  dsimp only
  by_cases a : q.1 = 0
  · rw [if_pos a, if_pos a]
  · by_cases b : q.2.1 = 0
    · rw [if_neg a, if_pos b, if_pos b, if_neg a]
    · by_cases c : q.2.2 = 0
      · rw [if_neg a, if_neg b, if_pos c, if_neg a, if_neg b]
      · simp [a, b, c] at hz
theorem new_look {q : RowN} (L : Nat) : okLook (newN q L) := by
  unfold okLook newN
  dsimp only
  refine ⟨?_, ?_, ?_⟩ <;> split <;> omega
/-- What lies below some bound, at the first free place. -/
def LowZ (q : RowN) (R : List EntN) (L : Nat) : Prop := ∀ x ∈ R, zcN q x.1 ≤ L
theorem StartG.lowZ {R : List EntN} (h : StartG R) (q : RowN) : LowZ q R (lastN q 0) := fun x hx => by
  have := h.low x hx
  unfold zcN lastN
  split
  · omega
  · split <;> omega
theorem addR_new {q : RowN} {R : List EntN} {L : Nat} (hz : 0 < zsN q) (h : LowZ q R L) : addR R (newN q L) 2 = R ++ [(newN q L, 2)] := by
  have hn : numF R (newN q L) = none := by
    cases hn : numF R (newN q L) with
    | none => rfl
    | some n =>
      obtain ⟨b, hb⟩ := numF_some hn
      have := h _ (List.mem_of_getElem? hb)
      rw [show zcN q (newN q L, b).1 = L + 1 from zc_new hz L] at this
      omega
  unfold addR
  rw [if_neg (by simp [new_look]), hn]
  show R ++ [(newN q L, orB 0 2)] = _
  rw [or02]
theorem modR_mem {R : List EntN} {n : Int} {f : Nat → Nat} {x : EntN} (h : x ∈ modR R n f) : ∃ y ∈ R, y.1 = x.1 := by
  unfold modR at h
  split at h
  · split at h
    · rename_i y hy
      rcases List.mem_or_eq_of_mem_set h with h | h
      · exact ⟨x, h, rfl⟩
      · exact ⟨y, List.mem_of_getElem? hy, by rw [h]⟩
    · exact ⟨x, h, rfl⟩
  · exact ⟨x, h, rfl⟩
theorem growG_low {q : RowN} {R0 : List EntN} (hS : StartG R0) (hz : 0 < zsN q) (ns : List Nat) : ∀ k, LowZ q (growG q R0 ns k).1 (lastN q k)
  | 0 => hS.lowZ q
  | k + 1 => fun x hx => by
    have ih := growG_low hS hz ns k
    have hx1 : ∃ y ∈ (growG q R0 ns k).1 ++ [(newN q (lastN q k), 2)], y.1 = x.1 := by
      rw [← addR_new hz ih]
      have hx2 : x ∈ (match (growG q R0 ns k).2[k + 1]? with
        | some n => modR (addR (growG q R0 ns k).1 (newN q (lastN q k)) 2) (n : Int) (fun x => andNotB x 2)
        | none => addR (growG q R0 ns k).1 (newN q (lastN q k)) 2) := hx
      split at hx2
      · exact modR_mem hx2
      · exact ⟨x, hx2, rfl⟩
    obtain ⟨y, hy, e⟩ := hx1
    rw [← e, lastN_succ]
    rcases List.mem_append.1 hy with hy | hy
    · have := ih y hy
      omega
    · rw [List.mem_singleton.1 hy]
      show zcN q (newN q (lastN q k)) ≤ _
      rw [zc_new hz]
      omega
theorem growG_whole {q : RowN} {R0 : List EntN} (hS : StartG R0) (hz : zsN q = 0) {n : Nat} (hn : n ∈ candA R0 q) : ∀ k, growG q R0 (candA R0 q) k = (R0, candA R0 q)
  | 0 => rfl
  | k + 1 => by
    have hq : q.1 ≠ 0 ∧ q.2.1 ≠ 0 ∧ q.2.2 ≠ 0 := by
      unfold zsN zN at hz
      refine ⟨fun h => ?_, fun h => ?_, fun h => ?_⟩ <;> simp [h] at hz
    have hnew : newN q (lastN q k) = q := by
      unfold newN
      rw [if_neg hq.1, if_neg hq.2.1, if_neg hq.2.2]
    have hit : ∀ i m, (candA R0 q)[i]? = some m → R0[m]? = some (q, 2) := fun i m hm => by
      obtain ⟨x, hx, hf⟩ := candA_at hm
      rw [hx]
      have h2 := hS.two x (List.mem_of_getElem? hx)
      rw [fitB_iff] at hf
      have : q = x.1 := row_ext (hf.1.resolve_left hq.1) (hf.2.1.resolve_left hq.2.1) (hf.2.2.resolve_left hq.2.2)
      rw [this, ← h2]
    have huniq : ∀ m m', R0[m]? = some (q, 2) → R0[m']? = some (q, 2) → m = m' := fun m m' h1 h2 => by
      have a := numF_at hS.nod h1
      have b := numF_at hS.nod h2
      rw [a] at b
      injection b
    have hone : (candA R0 q)[k + 1]? = none := by
      cases hx : (candA R0 q)[k + 1]? with
      | none => rfl
      | some m =>
        have hk := (List.getElem?_eq_some_iff.1 hx).1
        have h0 := List.getElem?_eq_getElem (show 0 < (candA R0 q).length by omega)
        have := huniq _ _ (hit _ _ hx) (hit _ _ h0)
        rw [← this] at h0
        have := at_inj (candA_nod R0 q) hx h0
        omega
    have hadd : addR R0 q 2 = R0 := by
      obtain ⟨i, hi⟩ := List.getElem?_of_mem hn
      have hm := hit i n hi
      unfold addR
      have : okLook q := hS.nz (q, 2) (List.mem_of_getElem? hm)
      rw [if_neg (by simp [this]), numF_at hS.nod hm]
      have hd : R0.getD n (q, 0) = (q, 2) := by rw [List.getD_eq_getElem?_getD, hm]; rfl
      show R0.set n (q, orB (R0.getD n (q, 0)).2 2) = R0
      rw [hd, or22]
      apply List.ext_getElem?
      intro j
      rw [List.getElem?_set]
      split
      · rename_i hj
        subst hj
        rw [if_pos (List.getElem?_eq_some_iff.1 hm).1, hm]
      · rfl
    show stepG q k (growG q R0 (candA R0 q) k) = _
    rw [growG_whole hS hz hn k]
    unfold stepG
    dsimp only
    rw [hone, hnew]
    show (addR R0 q 2, (candA R0 q).eraseIdx (k + 1)) = _
    rw [hadd, List.eraseIdx_of_length_le (List.getElem?_eq_none_iff.1 hone)]
theorem growG_at {q : RowN} {R0 : List EntN} (hS : StartG R0) {i n : Nat} {r : RowN} (hi : (candA R0 q)[i]? = some n) (hr : R0[n]? = some (r, 2)) : ∀ k, (growG q R0 (candA R0 q) k).1[n]? = some (r, cutB i k) := by
  by_cases hz : zsN q = 0
  · intro k
    rw [growG_whole hS hz (List.mem_of_getElem? hi) k]
    have h0 : i = 0 := by
      by_cases h0 : i = 0
      · exact h0
      · obtain ⟨j, rfl⟩ : ∃ j, i = j + 1 := ⟨i - 1, by omega⟩
        have := (growG_rows q R0 (candA R0 q) 1).2 j
        have hw := growG_whole hS hz (List.mem_of_getElem? hi) 1
        have hj := (growG_rows q R0 (candA R0 q) (j + 1)).2 (j + 1) (Nat.le_refl _)
        rw [growG_whole hS hz (List.mem_of_getElem? hi) (j + 1)] at hj
        dsimp only at hj
        rw [hi] at hj
        have := at_inj (candA_nod R0 q) hi hj.symm
        omega
    subst h0
    rw [hr]
    rfl
  · have hz' : 0 < zsN q := by omega
    intro k
    induction k with
    | zero =>
      show R0[n]? = _
      rw [hr]
      unfold cutB
      rw [if_neg (by omega)]
    | succ k ih =>
      have hlow := growG_low hS hz' (candA R0 q) k
      have hrows := (growG_rows q R0 (candA R0 q) k).2 (k + 1) (by omega)
      have hn := (List.getElem?_eq_some_iff.1 ih).1
      show (match (growG q R0 (candA R0 q) k).2[k + 1]? with
        | some n => modR (addR (growG q R0 (candA R0 q) k).1 (newN q (lastN q k)) 2) (n : Int) (fun x => andNotB x 2)
        | none => addR (growG q R0 (candA R0 q) k).1 (newN q (lastN q k)) 2)[n]? = _
      rw [addR_new hz' hlow, hrows]
      generalize (growG q R0 (candA R0 q) k).1 = R at *
      generalize newN q (lastN q k) = x at *
      have hap : (R ++ [(x, 2)])[n]? = some (r, cutB i k) := by rw [List.getElem?_append_left hn]; exact ih
      cases hm : (candA R0 q)[k + 1 + k]? with
      | none =>
        show (R ++ [(x, 2)])[n]? = _
        rw [hap]
        congr 2
        have h1 := List.getElem?_eq_none_iff.1 hm
        have h2 := (List.getElem?_eq_some_iff.1 hi).1
        unfold cutB
        split <;> split <;> omega
      | some m =>
        obtain ⟨y, hy, _⟩ := candA_at hm
        have hy2 := hS.two y (List.mem_of_getElem? hy)
        show (modR (R ++ [(x, 2)]) (m : Int) (fun x => andNotB x 2))[n]? = _
        by_cases hnm : m = n
        · subst hnm
          have := at_inj (candA_nod R0 q) hi hm
          rw [modR_in hap, List.getElem?_set, if_pos rfl, if_pos (by rw [List.length_append]; omega)]
          have e1 : cutB i k = 2 := if_neg (by omega)
          have e2 : cutB i (k + 1) = 0 := if_pos (by omega)
          rw [e1, e2]
          show some (r, andNotB 2 2) = _
          rw [nand22]
        · have hne : (modR (R ++ [(x, 2)]) (m : Int) (fun x => andNotB x 2))[n]? = (R ++ [(x, 2)])[n]? := by
            unfold modR
            rw [if_pos (by omega), Int.toNat_natCast]
            split
            · rw [List.getElem?_set, if_neg hnm]
            · rfl
          rw [hne, hap]
          congr 2
          have : i ≠ k + 1 + k := fun e => hnm (by rw [← e, hi] at hm; injection hm with hm; exact hm.symm)
          unfold cutB
          split <;> split <;> omega
/-- The table's rows after what has come. -/
abbrev RofG (q : RowN) (R0 : List EntN) (op : List MatE) : List EntN := (growG q R0 (candA R0 q) op.length).1
theorem pre_at {ip ns : List Nat} {n : Nat} (h : ip ++ [n] <+: ns) : ns[ip.length]? = some n := by
  obtain ⟨t, rfl⟩ := h
  rw [List.getElem?_append_left (by simp), List.getElem?_append_right (Nat.le_refl _), Nat.sub_self]
  rfl
theorem scanG {q : RowN} {R0 : List EntN} (hS : StartG R0) {ip : List Nat} {op : List MatE} (h : ScanR (RofG q R0) 2 ip op) : ip <+: candA R0 q → ip.length = 2 * op.length ∨ ip.length + 1 = 2 * op.length := by
  induction h with
  | nil => exact fun _ => .inl rfl
  | @skip ip op n h hs ih =>
    intro hp
    have hn := pre_at hp
    obtain ⟨x, hx, _⟩ := candA_at hn
    have hx2 := hS.two x (List.mem_of_getElem? hx)
    have hg := growG_at hS hn (r := x.1) (by rw [hx, ← hx2]) op.length
    rw [List.length_append, List.length_singleton]
    rcases ih ((List.prefix_append ip [n]).trans hp) with e | e
    · exfalso
      have := hs _ hg
      rw [show cutB ip.length op.length = 2 from if_neg (by omega)] at this
      exact absurd this (by rw [show ((x.1, 2) : EntN).2 = 2 from rfl, and22]; decide)
    · exact .inl (by omega)
  | @take ip op n r u h hx hne ih =>
    intro hp
    have hn := pre_at hp
    obtain ⟨x, hx0, _⟩ := candA_at hn
    have hx2 := hS.two x (List.mem_of_getElem? hx0)
    have hg := growG_at hS hn (r := x.1) (by rw [hx0, ← hx2]) op.length
    rw [List.length_append, List.length_append, List.length_singleton, List.length_singleton]
    rcases ih ((List.prefix_append ip [n]).trans hp) with e | e
    · exact .inr (by omega)
    · exfalso
      rw [show RofG q R0 op = (growG q R0 (candA R0 q) op.length).1 from rfl, hg] at hx
      injection hx with hx
      rw [show cutB ip.length op.length = 0 from if_pos (by omega)] at hx
      injection hx with _ hx
      rw [← hx, and02] at hne
      exact hne rfl
theorem next_grow {q : RowN} {R0 : List EntN} (hS : StartG R0) {op : List MatE} {x : MatE} {op' : List MatE} (h : nextM (RofG q R0) 2 (candA R0 q) op x op') : op' = op ++ [x] ∧ (candA R0 q)[2 * op.length]? = some x.1 ∧ R0[x.1]? = some (x.2, 2) ∧ fitB q x.2 = true := by
  obtain ⟨h1, ip, hs, hp, u, hu, hne⟩ := h
  have hn := pre_at hp
  obtain ⟨y, hy, hf⟩ := candA_at hn
  have hy2 := hS.two y (List.mem_of_getElem? hy)
  have hg := growG_at hS hn (r := y.1) (by rw [hy, ← hy2]) op.length
  rw [show RofG q R0 op = (growG q R0 (candA R0 q) op.length).1 from rfl, hg] at hu
  injection hu with hu
  rcases scanG hS hs ((List.prefix_append ip [x.1]).trans hp) with e | e
  · rw [e] at hn
    injection hu with hu1 hu2
    refine ⟨h1, hn, ?_, ?_⟩
    · rw [hy, ← hu1, ← hy2]
    · rw [← hu1]; exact hf
  · rw [show cutB ip.length op.length = 0 from if_pos (by omega)] at hu
    injection hu with _ hu
    rw [← hu, and02] at hne
    exact absurd rfl hne
theorem done_grow {q : RowN} {R0 : List EntN} (hS : StartG R0) {op : List MatE} (h : ScanR (RofG q R0) 2 (candA R0 q) op) : (growG q R0 (candA R0 q) op.length).2.length = op.length := by
  have hl := scanG hS h (List.prefix_refl _)
  have h1 := (growG_rows q R0 (candA R0 q) op.length).1
  generalize (growG q R0 (candA R0 q) op.length).2 = rows at *
  have ha : rows.length ≤ op.length := by
    have h2 := h1 op.length (Nat.le_refl _)
    have h3 : (candA R0 q)[2 * op.length]? = none := List.getElem?_eq_none (by omega)
    rw [h3] at h2
    exact List.getElem?_eq_none_iff.1 h2
  have hb : op.length ≤ rows.length := by
    by_cases h0 : op.length = 0
    · omega
    · have := h1 (op.length - 1) (by omega)
      have hlt : 2 * (op.length - 1) < (candA R0 q).length := by omega
      rw [List.getElem?_eq_getElem hlt] at this
      have := (List.getElem?_eq_some_iff.1 this).1
      omega
  omega
theorem done_few {q : RowN} {R0 : List EntN} (hS : StartG R0) {op : List MatE} (h : ScanR (RofG q R0) 2 (candA R0 q) op) : op.length ≤ R0.length := by
  have h1 := done_grow hS h
  have h2 := growG_few q R0 (candA R0 q) op.length
  have h3 := candA_len R0 q
  omega
end Go.Proofs.Ytnmimagcmmdolaa
