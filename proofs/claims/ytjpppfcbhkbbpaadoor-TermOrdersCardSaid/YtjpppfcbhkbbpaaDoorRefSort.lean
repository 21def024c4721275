/-
  CONTRACT OF THE REFERENCE's Sort.
-/
import Derived.Test.YtjpppfcbhkbbpaaDoorSortOwn
import Derived.Test.YtjpppfcbhkbbpaaDoorRefCompare
import Derived.Deep.RegionHeld3
import Derived.Deep.RegionLaw
import Derived.IntWalk
import Derived.Deep.AppendLies
namespace Go.Proofs.YtjpppfcbhkbbpaaDoor
open Go.RowKit
open Utf Term
set_option linter.unusedVariables false
set_option linter.unusedSimpArgs false

/-- copy of whole triples. -/
theorem run_copy_triples (w : World) (ty : TypeId) (b o dLen dCap : Nat) (a : Addr) (sLen sCap m : Nat) (cs : List Value) (hm : m = Nat.min sLen dLen) (hn : cs.length = m * 9)
    (hsrc : ∀ j v, cs[j]? = some v → w.cell? (a.add j) = some v) (hc : ∀ j, j < cs.length → (w.cell? ⟨b, o + j, none⟩).isSome = true) (hf : ∀ j, j < cs.length → w.frozen? ⟨b, o + j, none⟩ = false) (h1 : ∀ v ∈ cs, v.oneCell' = true) :
    (Builtin.copy_ #[27, 27] ty #[.slice (some ⟨b, o, none⟩) dLen dCap, .slice (some a) sLen sCap]).run Tryd.prog w = .ok (goInt m) (w.setCells b o cs) := by
  have hl := run_loadCells_list (P := Tryd.prog) w a cs hsrc
  have hst := run_storeCells_cells (P := Tryd.prog) b o cs 0 w (by simpa using hc) (by simpa using hf) h1
  have hz : ∀ W, (sizeOf 26).run Tryd.prog W = .ok 9 W := fun W => by kernel_rfl
  simp [Builtin.copy_, run_underlying Tryd.underlying27, Builtin.lenOf, Builtin.firstCells, hz, ← hm, ← hn, hl, hst]
theorem run_copy_nothing (w : World) (ty : TypeId) (dp sp : Option Addr) (dCap sLen sCap : Nat) :
    (Builtin.copy_ #[27, 27] ty #[.slice dp 0 dCap, .slice sp sLen sCap]).run Tryd.prog w = .ok (goInt 0) w := by
  have hz : ∀ W, (sizeOf 26).run Tryd.prog W = .ok 9 W := fun W => by kernel_rfl
  cases dp <;> cases sp <;> simp [Builtin.copy_, run_underlying Tryd.underlying27, Builtin.lenOf, Builtin.firstCells, hz, loadCells, loadCellsFrom, storeCells]

section
variable {ops : Array Oper} {o : Oper} {a : Act} {w : World} {K : Act → World → Prop} {Q : Exit → Act → World → Prop} {E : Prop}
/-- copy, as one step of a region that draws its order. -/
theorem step_copy_some (hg : o.guard = none) (d s : Operand) (hop : o.op = Op.call { callee := Callee.builtin Builtin.copy, args := #[d, s], argTypes := #[27, 27] })
    (b p dLen dCap : Nat) (hd : a.eval d = .slice (some ⟨b, p, none⟩) dLen dCap) (ad : Addr) (sLen sCap : Nat) (hs : a.eval s = .slice (some ad) sLen sCap) (m : Nat) (cs : List Value) (hm : m = Nat.min sLen dLen) (hn : cs.length = m * 9)
    (hsrc : ∀ j v, cs[j]? = some v → w.cell? (ad.add j) = some v) (hc : ∀ j, j < cs.length → (w.cell? ⟨b, p + j, none⟩).isSome = true) (hf : ∀ j, j < cs.length → w.frozen? ⟨b, p + j, none⟩ = false) (h1 : ∀ v ∈ cs, v.oneCell' = true)
    (hK : K (a.put o.dst (goInt m)) (w.setCells b p cs)) :
    if Region.wanted o (yielded ops a.tmps) = true then Oper.wp Tryd.prog o a w K Q else E := by
  rw [if_pos (by simp [Region.wanted, hg])]
  have hrun := run_copy_triples w o.type b p dLen dCap ad sLen sCap m cs hm hn hsrc hc hf h1
  unfold Oper.wp
  simp [execOp, hop, resolve, invoke, builtin, hd, hs, hrun, Result.andThen]
  exact hK
theorem step_copy_none (hg : o.guard = none) (d s : Operand) (hop : o.op = Op.call { callee := Callee.builtin Builtin.copy, args := #[d, s], argTypes := #[27, 27] })
    (dp : Option Addr) (dLen dCap : Nat) (hd : a.eval d = .slice dp dLen dCap) (sp : Option Addr) (sLen sCap : Nat) (hs : a.eval s = .slice sp sLen sCap) (h0 : dLen = 0)
    (hK : K (a.put o.dst (goInt 0)) w) :
    if Region.wanted o (yielded ops a.tmps) = true then Oper.wp Tryd.prog o a w K Q else E := by
  rw [if_pos (by simp [Region.wanted, hg])]
  subst h0
  have hrun := run_copy_nothing w o.type dp sp dCap sLen sCap
  unfold Oper.wp
  simp [execOp, hop, resolve, invoke, builtin, hd, hs, hrun, Result.andThen]
  exact hK
end
theorem info_triple : (Tryd.prog.info? 26).map (fun i => (i.zero, i.size, i.bytes)) = some (some (tripleV (0, ⟨#[]⟩, ⟨#[]⟩) (0, ⟨#[]⟩, ⟨#[]⟩) (0, ⟨#[]⟩, ⟨#[]⟩)), 9, 120) := by kernel_rfl
theorem info_parts3 {e : TypeId} {z : Value} {s b : Nat} (h : (Tryd.prog.info? e).map (fun i => (i.zero, i.size, i.bytes)) = some (some z, s, b)) : ∃ i, Tryd.prog.info? e = some i ∧ i.zero = some z ∧ i.size = s ∧ i.bytes = b := by
  cases hq : Tryd.prog.info? e with
  | none => rw [hq] at h; cases h
  | some i =>
    rw [hq] at h
    simp at h
    exact ⟨i, rfl, h.1, h.2.1, h.2.2⟩

/-- Two triples' cells, and nothing older turned. -/
theorem two_start {W w0 : World} {b o b' o' : Nat} {x y : TripD} (h : Nine W b o x) (h' : Nine W b' o' y) (hB : Below w0.heap.size w0 W) : W.cell? ⟨b, o, none⟩ = some (.int .i64 x.1.1) ∧ W.cell? ⟨b, o + 1, none⟩ = some (.string x.1.2.1) ∧ W.cell? ⟨b, o + 2, none⟩ = some (.string x.1.2.2) ∧ W.cell? ⟨b, o + 3, none⟩ = some (.int .i64 x.2.1.1) ∧ W.cell? ⟨b, o + 4, none⟩ = some (.string x.2.1.2.1) ∧ W.cell? ⟨b, o + 5, none⟩ = some (.string x.2.1.2.2) ∧ W.cell? ⟨b, o + 6, none⟩ = some (.int .i64 x.2.2.1) ∧ W.cell? ⟨b, o + 7, none⟩ = some (.string x.2.2.2.1) ∧ W.cell? ⟨b, o + 8, none⟩ = some (.string x.2.2.2.2) ∧ W.cell? ⟨b', o', none⟩ = some (.int .i64 y.1.1) ∧ W.cell? ⟨b', o' + 1, none⟩ = some (.string y.1.2.1) ∧ W.cell? ⟨b', o' + 2, none⟩ = some (.string y.1.2.2) ∧ W.cell? ⟨b', o' + 3, none⟩ = some (.int .i64 y.2.1.1) ∧ W.cell? ⟨b', o' + 4, none⟩ = some (.string y.2.1.2.1) ∧ W.cell? ⟨b', o' + 5, none⟩ = some (.string y.2.1.2.2) ∧ W.cell? ⟨b', o' + 6, none⟩ = some (.int .i64 y.2.2.1) ∧ W.cell? ⟨b', o' + 7, none⟩ = some (.string y.2.2.2.1) ∧ W.cell? ⟨b', o' + 8, none⟩ = some (.string y.2.2.2.2) ∧ Below w0.heap.size w0 W :=
  ⟨h.c0, h.c1, h.c2, h.c3, h.c4, h.c5, h.c6, h.c7, h.c8, h'.c0, h'.c1, h'.c2, h'.c3, h'.c4, h'.c5, h'.c6, h'.c7, h'.c8, hB⟩
theorem two_step {W W' w0 : World} {b o b' o' : Nat} {x y : TripD} (h : W.cell? ⟨b, o, none⟩ = some (.int .i64 x.1.1) ∧ W.cell? ⟨b, o + 1, none⟩ = some (.string x.1.2.1) ∧ W.cell? ⟨b, o + 2, none⟩ = some (.string x.1.2.2) ∧ W.cell? ⟨b, o + 3, none⟩ = some (.int .i64 x.2.1.1) ∧ W.cell? ⟨b, o + 4, none⟩ = some (.string x.2.1.2.1) ∧ W.cell? ⟨b, o + 5, none⟩ = some (.string x.2.1.2.2) ∧ W.cell? ⟨b, o + 6, none⟩ = some (.int .i64 x.2.2.1) ∧ W.cell? ⟨b, o + 7, none⟩ = some (.string x.2.2.2.1) ∧ W.cell? ⟨b, o + 8, none⟩ = some (.string x.2.2.2.2) ∧ W.cell? ⟨b', o', none⟩ = some (.int .i64 y.1.1) ∧ W.cell? ⟨b', o' + 1, none⟩ = some (.string y.1.2.1) ∧ W.cell? ⟨b', o' + 2, none⟩ = some (.string y.1.2.2) ∧ W.cell? ⟨b', o' + 3, none⟩ = some (.int .i64 y.2.1.1) ∧ W.cell? ⟨b', o' + 4, none⟩ = some (.string y.2.1.2.1) ∧ W.cell? ⟨b', o' + 5, none⟩ = some (.string y.2.1.2.2) ∧ W.cell? ⟨b', o' + 6, none⟩ = some (.int .i64 y.2.2.1) ∧ W.cell? ⟨b', o' + 7, none⟩ = some (.string y.2.2.2.1) ∧ W.cell? ⟨b', o' + 8, none⟩ = some (.string y.2.2.2.2) ∧ Below w0.heap.size w0 W) (k : Below W.heap.size W W') : W'.cell? ⟨b, o, none⟩ = some (.int .i64 x.1.1) ∧ W'.cell? ⟨b, o + 1, none⟩ = some (.string x.1.2.1) ∧ W'.cell? ⟨b, o + 2, none⟩ = some (.string x.1.2.2) ∧ W'.cell? ⟨b, o + 3, none⟩ = some (.int .i64 x.2.1.1) ∧ W'.cell? ⟨b, o + 4, none⟩ = some (.string x.2.1.2.1) ∧ W'.cell? ⟨b, o + 5, none⟩ = some (.string x.2.1.2.2) ∧ W'.cell? ⟨b, o + 6, none⟩ = some (.int .i64 x.2.2.1) ∧ W'.cell? ⟨b, o + 7, none⟩ = some (.string x.2.2.2.1) ∧ W'.cell? ⟨b, o + 8, none⟩ = some (.string x.2.2.2.2) ∧ W'.cell? ⟨b', o', none⟩ = some (.int .i64 y.1.1) ∧ W'.cell? ⟨b', o' + 1, none⟩ = some (.string y.1.2.1) ∧ W'.cell? ⟨b', o' + 2, none⟩ = some (.string y.1.2.2) ∧ W'.cell? ⟨b', o' + 3, none⟩ = some (.int .i64 y.2.1.1) ∧ W'.cell? ⟨b', o' + 4, none⟩ = some (.string y.2.1.2.1) ∧ W'.cell? ⟨b', o' + 5, none⟩ = some (.string y.2.1.2.2) ∧ W'.cell? ⟨b', o' + 6, none⟩ = some (.int .i64 y.2.2.1) ∧ W'.cell? ⟨b', o' + 7, none⟩ = some (.string y.2.2.2.1) ∧ W'.cell? ⟨b', o' + 8, none⟩ = some (.string y.2.2.2.2) ∧ Below w0.heap.size w0 W' := by
  obtain ⟨h0, h1, h2, h3, h4, h5, h6, h7, h8, h9, h10, h11, h12, h13, h14, h15, h16, h17, hB⟩ := h
  exact ⟨cell_below k h0, cell_below k h1, cell_below k h2, cell_below k h3, cell_below k h4, cell_below k h5, cell_below k h6, cell_below k h7, cell_below k h8, cell_below k h9, cell_below k h10, cell_below k h11, cell_below k h12, cell_below k h13, cell_below k h14, cell_below k h15, cell_below k h16, cell_below k h17, below_step hB k⟩
theorem two_below {W w0 : World} {b o b' o' : Nat} {x y : TripD} (h : W.cell? ⟨b, o, none⟩ = some (.int .i64 x.1.1) ∧ W.cell? ⟨b, o + 1, none⟩ = some (.string x.1.2.1) ∧ W.cell? ⟨b, o + 2, none⟩ = some (.string x.1.2.2) ∧ W.cell? ⟨b, o + 3, none⟩ = some (.int .i64 x.2.1.1) ∧ W.cell? ⟨b, o + 4, none⟩ = some (.string x.2.1.2.1) ∧ W.cell? ⟨b, o + 5, none⟩ = some (.string x.2.1.2.2) ∧ W.cell? ⟨b, o + 6, none⟩ = some (.int .i64 x.2.2.1) ∧ W.cell? ⟨b, o + 7, none⟩ = some (.string x.2.2.2.1) ∧ W.cell? ⟨b, o + 8, none⟩ = some (.string x.2.2.2.2) ∧ W.cell? ⟨b', o', none⟩ = some (.int .i64 y.1.1) ∧ W.cell? ⟨b', o' + 1, none⟩ = some (.string y.1.2.1) ∧ W.cell? ⟨b', o' + 2, none⟩ = some (.string y.1.2.2) ∧ W.cell? ⟨b', o' + 3, none⟩ = some (.int .i64 y.2.1.1) ∧ W.cell? ⟨b', o' + 4, none⟩ = some (.string y.2.1.2.1) ∧ W.cell? ⟨b', o' + 5, none⟩ = some (.string y.2.1.2.2) ∧ W.cell? ⟨b', o' + 6, none⟩ = some (.int .i64 y.2.2.1) ∧ W.cell? ⟨b', o' + 7, none⟩ = some (.string y.2.2.2.1) ∧ W.cell? ⟨b', o' + 8, none⟩ = some (.string y.2.2.2.2) ∧ Below w0.heap.size w0 W) : Below w0.heap.size w0 W := h.2.2.2.2.2.2.2.2.2.2.2.2.2.2.2.2.2.2

theorem insL_stay {f : TripD → TripD → Int} (x : TripD) : ∀ (out : List TripD) (k : Nat), (∀ p y, p < k → out[p]? = some y → f y x < 0) → out[k]? = some x → ¬ f x x < 0 → insL f x out = out
  | [], k, _, h, _ => by simp at h
  | y :: out, 0, _, h, hx => by
    simp at h
    subst h
    unfold insL
    rw [if_neg hx, if_pos rfl]
  | y :: out, k + 1, hl, h, hx => by
    unfold insL
    rw [if_pos (hl 0 y (by omega) rfl), insL_stay x out k (fun p z hp hz => hl (p + 1) z (by omega) (by simpa using hz)) (by simpa using h) hx]
theorem insL_put {f : TripD → TripD → Int} (x : TripD) : ∀ (out : List TripD) (k : Nat), (∀ p y, p < k → out[p]? = some y → f y x < 0) → k ≤ out.length → (∀ y, out[k]? = some y → ¬ f y x < 0 ∧ y ≠ x) → insL f x out = out.take k ++ x :: out.drop k
  | [], k, _, h, _ => by
    have : k = 0 := by simpa using h
    subst this
    rfl
  | y :: out, 0, _, _, h => by
    obtain ⟨h1, h2⟩ := h y rfl
    unfold insL
    rw [if_neg h1, if_neg h2]
    rfl
  | y :: out, k + 1, hl, hk, h => by
    unfold insL
    rw [if_pos (hl 0 y (by omega) rfl), insL_put x out k (fun p z hp hz => hl (p + 1) z (by omega) (by simpa using hz)) (by simpa using hk) (fun z hz => h z (by simpa using hz))]
    rfl
theorem insL_length {f : TripD → TripD → Int} (x : TripD) : ∀ out : List TripD, (insL f x out).length ≤ out.length + 1
  | [] => by simp [insL]
  | y :: out => by
    unfold insL
    split
    · have := insL_length (f := f) x out
      simp only [List.length_cons]
      omega
    · split <;> simp
def zeroT : TripD := ((0, ⟨#[]⟩, ⟨#[]⟩), (0, ⟨#[]⟩, ⟨#[]⟩), (0, ⟨#[]⟩, ⟨#[]⟩))
/-- Triples laid one behind the other. -/
def putL (ls : List TripD) : Nat → List TripD → List TripD
  | _, [] => ls
  | p, b :: bs => putL (ls.set p b) (p + 1) bs
theorem putL_length : ∀ (bs : List TripD) (p : Nat) (ls : List TripD), (putL ls p bs).length = ls.length
  | [], _, _ => rfl
  | b :: bs, p, ls => by rw [putL, putL_length bs, List.length_set]
theorem putL_get : ∀ (bs : List TripD) (p : Nat) (ls : List TripD) (t : Nat), p + bs.length ≤ ls.length → (putL ls p bs)[t]? = if p ≤ t ∧ t < p + bs.length then bs[t - p]? else ls[t]?
  | [], p, ls, t, _ => by rw [putL, if_neg (by simp only [List.length_nil]; omega)]
  | b :: bs, p, ls, t, h => by
    have hl : p + (bs.length + 1) ≤ ls.length := by simpa using h
    rw [putL, putL_get bs (p + 1) _ t (by rw [List.length_set]; omega)]
    simp only [List.length_cons]
    by_cases e : t = p
    · subst e
      rw [if_neg (by omega), if_pos (by omega), Nat.sub_self, List.getElem?_set_self (by omega)]
      rfl
    · by_cases c : p + 1 ≤ t ∧ t < p + 1 + bs.length
      · rw [if_pos c, if_pos (by omega), show t - p = (t - (p + 1)) + 1 by omega, List.getElem?_cons_succ]
      · rw [if_neg c, if_neg (by omega), List.getElem?_set_ne (by omega)]
theorem setL_append (us vs : List Value) : ∀ (s : Nat) (xs : List Value), setL xs s (us ++ vs) = setL (setL xs s us) (s + us.length) vs := by
  induction us with
  | nil => intro s xs; rfl
  | cons u us ih =>
    intro s xs
    rw [List.cons_append, setL, setL, ih, List.length_cons, show s + 1 + us.length = s + (us.length + 1) by omega]
theorem cellsT_putL : ∀ (bs : List TripD) (p : Nat) (ls : List TripD), p + bs.length ≤ ls.length → setL (cellsT ls) (p * 9) (cellsT bs) = cellsT (putL ls p bs)
  | [], _, _, _ => rfl
  | b :: bs, p, ls, h => by
    have hl : p + (bs.length + 1) ≤ ls.length := by simpa using h
    rw [cellsT_cons, setL_append, cellsT_set (by omega), encT_length, show p * 9 + 9 = (p + 1) * 9 by omega, cellsT_putL bs (p + 1) _ (by rw [List.length_set]; omega), putL]
theorem put_in (out : List TripD) (k : Nat) (x : TripD) (hk : k ≤ out.length) : (putL (out ++ [zeroT]) (k + 1) (out.drop k)).set k x = out.take k ++ x :: out.drop k := by
  apply List.ext_getElem?
  intro t
  have hd : (out.drop k).length = out.length - k := List.length_drop
  have hL : (out ++ [zeroT]).length = out.length + 1 := by simp
  have hp : (putL (out ++ [zeroT]) (k + 1) (out.drop k)).length = out.length + 1 := by rw [putL_length, hL]
  have ht : (out.take k).length = k := by rw [List.length_take]; omega
  by_cases e : t = k
  · subst e
    rw [List.getElem?_set_self (by omega), List.getElem?_append_right (by omega), ht, Nat.sub_self]
    rfl
  · rw [List.getElem?_set_ne (by omega), putL_get _ _ _ _ (by rw [hd, hL]; omega)]
    by_cases h1 : t < k
    · rw [if_neg (by omega), List.getElem?_append_left (by omega), List.getElem?_append_left (by omega), List.getElem?_take_of_lt h1]
    · have hr : (out.take k ++ x :: out.drop k)[t]? = (out.drop k)[t - (k + 1)]? := by
        rw [List.getElem?_append_right (by omega), ht, show t - k = (t - (k + 1)) + 1 by omega, List.getElem?_cons_succ]
      rw [hr]
      by_cases h2 : t < out.length + 1
      · rw [if_pos (by omega)]
      · rw [if_neg (by omega), List.getElem?_eq_none (by omega), List.getElem?_eq_none (by omega)]

theorem sortL_next {ds : List TripD} {k : Nat} {x : TripD} (h : ds[k]? = some x) : sortL cmpT (ds.take (k + 1)) = insL cmpT x (sortL cmpT (ds.take k)) := by
  rw [List.take_add_one, h]
  show sortL cmpT (ds.take k ++ [x]) = _
  unfold sortL
  rw [List.foldl_append]
  rfl

/-- Between two rounds. -/
def SortAt (w : World) (ds : List TripD) (k : Nat) (v : Value) (wr : World) : Prop :=
  ∃ (ao : Option Addr) (cap : Nat) (out : List TripD), v = .slice ao out.length cap ∧ (0 < out.length → ∃ g, ao = some ⟨g, 0, none⟩) ∧ out = sortL cmpT (ds.take k) ∧ out.length ≤ k ∧
    wr.ownsRow w.heap.size 26 9 v out.length (cellsT out) ∧ Below w.heap.size w wr

set_option maxRecDepth 100000 in
set_option maxHeartbeats 8000000 in
theorem refSort_some (b off cap : Nat) (ds : List TripD) (w : World) (hc : ds.length ≤ cap) (hs : ds.length ≤ 1000000) (hr : RowC w b off (cellsT ds)) :
    Calls Tryd.prog 10 #[.slice (some ⟨b, off, none⟩) ds.length cap] w fun e w' => ∃ v, e = .returned v ∧ w'.ownsRow w.heap.size 26 9 v (sortL cmpT ds).length (cellsT (sortL cmpT ds)) ∧ Below w.heap.size w w' := by
  have HR := Lib.hid hr
  clear hr
  obtain ⟨n, hn⟩ : ∃ n, n = ds.length := ⟨_, rfl⟩
  have HN := Lib.hid hn
  rw [← hn] at hc hs ⊢
  clear hn
  go_enter Tryd.func10, Tryd.ntmps10
  go_wp2
  go_loopg [3, 4] n (fun gk s3 s4 wr => ∃ k : Nat, k ≤ n ∧ n - k ≤ gk ∧ s4 = .int .i64 k ∧ Hid (SortAt w ds k s3 wr))
  case atStart => exact ⟨0, Nat.zero_le _, by omega, rfl, Lib.hid ⟨none, 0, [], rfl, fun h => absurd h (by simp), rfl, Nat.le_refl _, World.ownsRow_nil _ _ _ _, Below.refl _ _⟩⟩
  case round =>
    obtain ⟨k, hk, hg, rfl, HS⟩ := hrel
    by_cases hlt : k < n
    · obtain ⟨x, hx⟩ : ∃ x, ds[k]? = some x := ⟨_, List.getElem?_eq_getElem (by have := HN.out; omega)⟩
      have d1 : decide ((k : Int) < (n : Int)) = true := by simpa using hlt
      have i0 : (0 : Int) ≤ (k : Int) := by omega
      have i1 : (k : Int) < (n : Int) := by omega
      obtain ⟨ao, ocap, out, rfl, hao, hout, hol, hown, hB⟩ := HS.out
      clear HS
      obtain ⟨m, hm⟩ : ∃ m, m = out.length := ⟨_, rfl⟩
      rw [← hm] at hao hol hown ⊢
      have HM := Lib.hid hm
      have HA := Lib.hid hao
      have HOUT := Lib.hid hout
      have HX := Lib.hid hx
      have NX := Lib.hid ((HR.out.below hB).nine hx)
      have HO := Lib.hid hown
      have HB := Lib.hid hB
      clear hm hao hout hx hown hB
      have hmk : m ≤ 1000000 := by omega
      rename World => wo
      go_wp2
      go_loopg [5] m (fun g2 s5 wx => ∃ j : Nat, j ≤ m ∧ m - j ≤ g2 ∧ s5 = .int .i64 j ∧ Hid (Below wo.heap.size wo wx) ∧ Hid (∀ p y, p < j → out[p]? = some y → cmpT y x < 0))
      case atStart => exact ⟨0, Nat.zero_le _, by omega, rfl, Lib.hid (Below.refl _ _), Lib.hid (fun p y h => absurd h (by omega))⟩
      case round =>
        obtain ⟨j, hj, hg2, rfl, HBx, HL⟩ := hrel
        by_cases hjm : j < m
        · obtain ⟨y, hy⟩ : ∃ y, out[j]? = some y := ⟨_, List.getElem?_eq_getElem (by have := HM.out; omega)⟩
          have d2 : decide ((j : Int) < (m : Int)) = true := by simpa using hjm
          have j0 : (0 : Int) ≤ (j : Int) := by omega
          have j1 : (j : Int) < (m : Int) := by omega
          obtain ⟨g, rfl⟩ := HA.out (by omega)
          have NY : Hid (Nine wo g (j * 9) y) := Lib.hid (by
            have h1 := HO.out
            rw [HM.out] at h1
            have := (owns_row h1).nine hy
            rwa [Nat.zero_add] at this)
          have HY := Lib.hid hy
          clear hy
          have START := Lib.hid (two_start ((NY.out.below HBx.out)) ((NX.out.below HBx.out)) HBx.out)
          have STARTd := Lib.hid (two_start ((NY.out.below HBx.out.drew)) ((NX.out.below HBx.out.drew)) HBx.out.drew)
          have MC := fun W => refCompareTriples_any y.1 y.2.1 y.2.2 x.1 x.2.1 x.2.2 W
          have ec : cmpT (y.1, y.2.1, y.2.2) (x.1, x.2.1, x.2.2) = cmpT y x := rfl
          rw [ec] at MC
          clear ec
          obtain ⟨r, hr⟩ : ∃ r, r = cmpT y x := ⟨_, rfl⟩
          rw [← hr] at MC
          have HRR := Lib.hid hr
          clear hr
          go_wp2_with fail
          go_region_held3 (fun W' => W'.cell? ⟨g, j * 9, none⟩ = some (.int .i64 y.1.1) ∧ W'.cell? ⟨g, j * 9 + 1, none⟩ = some (.string y.1.2.1) ∧ W'.cell? ⟨g, j * 9 + 2, none⟩ = some (.string y.1.2.2) ∧ W'.cell? ⟨g, j * 9 + 3, none⟩ = some (.int .i64 y.2.1.1) ∧ W'.cell? ⟨g, j * 9 + 4, none⟩ = some (.string y.2.1.2.1) ∧ W'.cell? ⟨g, j * 9 + 5, none⟩ = some (.string y.2.1.2.2) ∧ W'.cell? ⟨g, j * 9 + 6, none⟩ = some (.int .i64 y.2.2.1) ∧ W'.cell? ⟨g, j * 9 + 7, none⟩ = some (.string y.2.2.2.1) ∧ W'.cell? ⟨g, j * 9 + 8, none⟩ = some (.string y.2.2.2.2) ∧ W'.cell? ⟨b, off + k * 9, none⟩ = some (.int .i64 x.1.1) ∧ W'.cell? ⟨b, off + k * 9 + 1, none⟩ = some (.string x.1.2.1) ∧ W'.cell? ⟨b, off + k * 9 + 2, none⟩ = some (.string x.1.2.2) ∧ W'.cell? ⟨b, off + k * 9 + 3, none⟩ = some (.int .i64 x.2.1.1) ∧ W'.cell? ⟨b, off + k * 9 + 4, none⟩ = some (.string x.2.1.2.1) ∧ W'.cell? ⟨b, off + k * 9 + 5, none⟩ = some (.string x.2.1.2.2) ∧ W'.cell? ⟨b, off + k * 9 + 6, none⟩ = some (.int .i64 x.2.2.1) ∧ W'.cell? ⟨b, off + k * 9 + 7, none⟩ = some (.string x.2.2.2.1) ∧ W'.cell? ⟨b, off + k * 9 + 8, none⟩ = some (.string x.2.2.2.2) ∧ Below wo.heap.size wo W') ((first | assumption | exact START.out | exact STARTd.out | exact two_step (by assumption) (by assumption))) ((go_at_call 16; refine (MC _).mono ?_; rintro e y0 ⟨rfl, hY0⟩))
          all_goals
            rename_i hHeld
            have HB2 := Lib.hid (two_below hHeld)
            clear hHeld START STARTd MC
            by_cases hr0 : r < 0
            · have dr : decide (r < 0) = true := by simpa using hr0
              go_wp2_with fail
              go_roundg (m - (j + 1))
              case measure => omega
              case rel =>
                refine ⟨j + 1, by omega, Nat.le_refl _, by go_num, HB2, Lib.hid (fun p z hp hz => ?_)⟩
                by_cases e : p = j
                · subst e
                  rw [HY.out] at hz
                  cases hz
                  rw [← HRR.out]
                  exact hr0
                · exact HL.out p z (by omega) hz
            · have dr : decide (r < 0) = false := by simpa using hr0
              rename World => wy
              obtain ⟨a0, a1, a2, a3, a4, a5, a6, a7, a8⟩ := NY.out.below HB2.out
              obtain ⟨b0, b1, b2, b3, b4, b5, b6, b7, b8⟩ := NX.out.below HB2.out
              have ee := trip_eql y x
              by_cases hyx : y = x
              · rw [decide_eq_true hyx] at ee
                have HYX := Lib.hid hyx
                clear hyx
                have hr0' := Lib.hid hr0
                clear hr0
                go_wp2_with fail
                go_quiet (fail)
                go_wp2_with fail
                go_roundg (n - (k + 1))
                case measure => omega
                case rel =>
                  refine ⟨k + 1, by omega, Nat.le_refl _, by go_num, Lib.hid ⟨some ⟨g, 0, none⟩, ocap, out, by rw [← HM.out], fun _ => ⟨g, rfl⟩, ?_, by rw [← HM.out]; omega, ?_, ?_⟩⟩
                  · exact (insL_stay x out j HL.out (by rw [HY.out, HYX.out]) (by rw [ord_triple.refl]; omega)).symm.trans ((congrArg (insL cmpT x) HOUT.out).trans (sortL_next HX.out).symm)
                  · rw [← HM.out]; exact own_slice_below HO.out (HB2.out.trans ⟨rfl, rfl, rfl, Nat.le_refl _, fun _ _ => rfl⟩)
                  · exact below_step HB.out (HB2.out.trans ⟨rfl, rfl, rfl, Nat.le_refl _, fun _ _ => rfl⟩)
              · rw [decide_eq_false hyx] at ee
                have HYX := Lib.hid hyx
                clear hyx
                have hr0' := Lib.hid hr0
                clear hr0
                go_wp2_with fail
                go_quiet (fail)
                clear a0 a1 a2 a3 a4 a5 a6 a7 a8 b0 b1 b2 b3 b4 b5 b6 b7 b8 ee
                have HZ : Hid (Below wo.heap.size wo (wy.drewN nq)) := Lib.hid (HB2.out.trans ⟨rfl, rfl, rfl, Nat.le_refl _, fun _ _ => rfl⟩)
                generalize wy.drewN nq = wz at HZ ⊢
                have own1 := Lib.hid (own_slice_below HO.out HZ.out)
                obtain ⟨i0, hi, hz0, hz1, hz2⟩ := info_parts3 info_triple
                go_wp2_with (at_builtin; refine wpList_append_own _ rfl _ _ 27 rfl w.heap.size 26 i0 (tripleV (0, ⟨#[]⟩, ⟨#[]⟩) (0, ⟨#[]⟩, ⟨#[]⟩) (0, ⟨#[]⟩, ⟨#[]⟩)) 9 120 Tryd.underlying27 hi hz0 hz1 hz2 rfl (by decide) _ _ _ rfl (own1.out.alloc _) ⟨wz.heap.size, 0, none⟩ 1 1 (encT zeroT) rfl rfl (cells_new wz (encT zeroT).toArray 26 (encT zeroT) (fun j u h => by simpa using h)) (encT_one zeroT) (by unfold maxLen; omega) (by omega) (by have := below_step HB.out HZ.out; have := this.size; simp; omega) ?_; intro v' w1 hown' hgrow _)
                obtain ⟨g1, c1, rfl, hg1, hg2⟩ := hown'.form (by omega)
                have HB1 : Hid (Below w.heap.size w w1) := Lib.hid (((below_step HB.out HZ.out).alloc (below_step HB.out HZ.out).size _).grown hgrow (by have := below_step HB.out HZ.out; have := this.size; simp; omega) (fun j hj => (own1.out.lt j hj).1))
                have O1 : Hid (w1.ownsRow w.heap.size 26 9 (.slice (some ⟨g1, 0, none⟩) (m + 1) c1) (m + 1) (cellsT (out ++ [zeroT]))) := Lib.hid (by rw [cellsT_append]; exact hown')
                obtain ⟨hc1, hc2, hc3, hc4⟩ := owns_caps hown'
                clear hown' hgrow hc2 hg1 hg2
                have HG1 := Lib.hid hc3
                clear hc3
                have e1 : IntKind.i64.wrap ((j : Int) + 1) = (j : Int) + 1 := IntWalk.i64_in _ (by omega)
                have e2 : (0 : Int) ≤ (j : Int) + 1 := by omega
                have e3 : ((j : Int) + 1).toNat = j + 1 := by omega
                have e4 : (j : Int) + 1 ≤ (m : Int) + 1 := by omega
                have e5 : (j : Int) + 1 ≤ (c1 : Int) := by omega
                have e6 : (j : Int) ≤ (m : Int) + 1 := by omega
                have e7 : ¬ c1 = j + 1 := by omega
                have e8 : ¬ c1 = j := by omega
                have e9 : j ≤ c1 := by omega
                have e10 : j + 1 ≤ c1 := by omega
                have HCL : Hid ((out.drop j).length = m - j) := Lib.hid (by rw [List.length_drop, ← HM.out])
                have SRC : Hid (∀ i u, (cellsT (out.drop j))[i]? = some u → w1.cell? ((⟨g1, j * 9, none⟩ : Addr).add i) = some u) := Lib.hid (fun i u hu => by
                  have hi := (List.getElem?_eq_some_iff.1 hu).1
                  rw [cellsT_length, HCL.out] at hi
                  rw [← cellsT_drop, List.getElem?_drop] at hu
                  have e : (⟨g1, j * 9, none⟩ : Addr).add i = ⟨g1, j * 9 + i, none⟩ := by unfold Addr.add; split <;> simp_all
                  rw [e, O1.out.cellAt _ (by omega), cellsT_append, List.getElem?_append_left (by rw [cellsT_length, ← HM.out]; omega)]
                  exact hu)
                have DST : Hid (∀ i, i < (cellsT (out.drop j)).length → (w1.cell? ⟨g1, (j + 1) * 9 + i, none⟩).isSome = true) := Lib.hid (fun i hi => by
                  rw [cellsT_length, HCL.out] at hi
                  have hlen : (out ++ [zeroT]).length = m + 1 := by rw [List.length_append, ← HM.out]; rfl
                  rw [O1.out.cellAt _ (by omega), List.getElem?_eq_getElem (by rw [cellsT_length, hlen]; omega)]
                  rfl)
                have FRZ : Hid (∀ i, i < (cellsT (out.drop j)).length → w1.frozen? ⟨g1, (j + 1) * 9 + i, none⟩ = false) := Lib.hid (fun i hi => O1.out.frozenAt _)
                have MIN : Hid (m - j = Nat.min (m + 1 - j) (m + 1 - (j + 1))) := Lib.hid (by show _ = min _ _; omega)
                have LEN : Hid ((cellsT (out.drop j)).length = (m - j) * 9) := Lib.hid (by rw [cellsT_length, HCL.out])
                go_wp2_with fail
                go_region_law (refine step_copy_some rfl (.tmp 52) (.tmp 55) rfl g1 ((j + 1) * 9) (m + 1 - (j + 1)) (c1 - (j + 1)) (by simp [Act.eval, Act.put]) ⟨g1, j * 9, none⟩ (m + 1 - j) (c1 - j) (by simp [Act.eval, Act.put]) (m - j) (cellsT (out.drop j)) MIN.out LEN.out SRC.out DST.out FRZ.out (cellsT_one _) ?_)
                have W2 : ∀ W1 : World, Hid (Below w1.heap.size w1 W1) → Hid ((W1.setCells g1 ((j + 1) * 9) (cellsT (out.drop j))).ownsRow w.heap.size 26 9 (.slice (some ⟨g1, 0, none⟩) (m + 1) c1) (m + 1) (cellsT (putL (out ++ [zeroT]) (j + 1) (out.drop j))) ∧ Below w.heap.size w (W1.setCells g1 ((j + 1) * 9) (cellsT (out.drop j)))) := fun W1 hW1 => Lib.hid (by
                  have hlen : (out ++ [zeroT]).length = m + 1 := by rw [List.length_append, ← HM.out]; rfl
                  refine ⟨?_, Go.below_setCells HG1.out _ _ _ (HB1.out.trans (hW1.out.mono HB1.out.size))⟩
                  rw [← cellsT_putL _ _ _ (by rw [HCL.out, hlen]; omega)]
                  exact owns_setCells _ _ _ _ (own_slice_below O1.out hW1.out))
                have W3 := W2 w1.drew (Lib.hid ⟨rfl, rfl, rfl, Nat.le_refl _, fun _ _ => rfl⟩)
                clear W2 SRC DST FRZ MIN LEN
                generalize (w1.drew.setCells g1 ((j + 1) * 9) (cellsT (out.drop j))) = w2 at W3 ⊢
                have HPL : Hid ((putL (out ++ [zeroT]) (j + 1) (out.drop j)).length = m + 1) := Lib.hid (by rw [putL_length, List.length_append, ← HM.out]; rfl)
                obtain ⟨z, hz⟩ : ∃ z, (putL (out ++ [zeroT]) (j + 1) (out.drop j))[j]? = some z := ⟨_, List.getElem?_eq_getElem (by rw [HPL.out]; omega)⟩
                have hnz := (owns_row W3.out.1).nine hz
                rw [Nat.zero_add] at hnz
                obtain ⟨c0, c1', c2, c3, c4, c5, c6, c7, c8⟩ := hnz
                have hfz : ∀ i, w2.frozen? ⟨g1, i, none⟩ = false := fun i => W3.out.1.frozenAt i
                obtain ⟨b0, b1, b2, b3, b4, b5, b6, b7, b8⟩ := (HR.out.below W3.out.2).nine HX.out
                have hjm1 : (j : Int) < (m : Int) + 1 := by omega
                have hjm2 : j < m + 1 := by omega
                clear hz
                go_wp2_with fail
                go_roundg (n - (k + 1))
                case measure => omega
                case rel =>
                  have hins : insL cmpT x out = out.take j ++ x :: out.drop j := insL_put x out j HL.out (by rw [← HM.out]; omega) (fun y' hy' => by rw [HY.out] at hy'; cases hy'; exact ⟨by rw [← HRR.out]; have := hr0'.out; omega, HYX.out⟩)
                  have hnl : (insL cmpT x out).length = m + 1 := by rw [hins, ← put_in out j x (by rw [← HM.out]; omega), List.length_set, HPL.out]
                  refine ⟨k + 1, by omega, Nat.le_refl _, by go_num, Lib.hid ⟨some ⟨g1, 0, none⟩, c1, insL cmpT x out, by rw [hnl], fun _ => ⟨g1, rfl⟩, (congrArg (insL cmpT x) HOUT.out).trans (sortL_next HX.out).symm, by rw [hnl]; omega, ?_, ?_⟩⟩
                  · rw [hnl, hins, ← put_in out j x (by rw [← HM.out]; omega), ← cellsT_set (by rw [HPL.out]; omega)]
                    exact owns_setCells (encT x) (j * 9) _ _ W3.out.1
                  · exact Go.below_setCells HG1.out (encT x) (j * 9) _ W3.out.2
        · have d2 : decide ((j : Int) < (m : Int)) = false := by simpa using hjm
          obtain rfl : j = m := by omega
          rename World => wy
          clear hj hg2 hjm
          go_wp2_with fail
          go_quiet (fail)
          have HBy : Hid (Below wo.heap.size wo (wy.drewN nq)) := Lib.hid (HBx.out.trans ⟨rfl, rfl, rfl, Nat.le_refl _, fun _ _ => rfl⟩)
          generalize wy.drewN nq = wy1 at HBy ⊢
          go_wp2_with fail
          go_quiet (fail)
          have HZ : Hid (Below wo.heap.size wo (wy1.drewN nq)) := Lib.hid (HBy.out.trans ⟨rfl, rfl, rfl, Nat.le_refl _, fun _ _ => rfl⟩)
          generalize wy1.drewN nq = wz at HZ ⊢
          have own1 := Lib.hid (own_slice_below HO.out HZ.out)
          obtain ⟨i0, hi, hz0, hz1, hz2⟩ := info_parts3 info_triple
          go_wp2_with (at_builtin; refine wpList_append_own _ rfl _ _ 27 rfl w.heap.size 26 i0 (tripleV (0, ⟨#[]⟩, ⟨#[]⟩) (0, ⟨#[]⟩, ⟨#[]⟩) (0, ⟨#[]⟩, ⟨#[]⟩)) 9 120 Tryd.underlying27 hi hz0 hz1 hz2 rfl (by decide) _ _ _ rfl (own1.out.alloc _) ⟨wz.heap.size, 0, none⟩ 1 1 (encT zeroT) rfl rfl (cells_new wz (encT zeroT).toArray 26 (encT zeroT) (fun j u h => by simpa using h)) (encT_one zeroT) (by unfold maxLen; omega) (by omega) (by have := below_step HB.out HZ.out; have := this.size; simp; omega) ?_; intro v' w1 hown' hgrow _)
          obtain ⟨g1, c1, rfl, hg1, hg2⟩ := hown'.form (by omega)
          have HB1 : Hid (Below w.heap.size w w1) := Lib.hid (((below_step HB.out HZ.out).alloc (below_step HB.out HZ.out).size _).grown hgrow (by have := below_step HB.out HZ.out; have := this.size; simp; omega) (fun j hj => (own1.out.lt j hj).1))
          have O1 : Hid (w1.ownsRow w.heap.size 26 9 (.slice (some ⟨g1, 0, none⟩) (j + 1) c1) (j + 1) (cellsT (out ++ [zeroT]))) := Lib.hid (by rw [cellsT_append]; exact hown')
          obtain ⟨hc1, hc2, hc3, hc4⟩ := owns_caps hown'
          clear hown' hgrow hc2 hg1 hg2
          have HG1 := Lib.hid hc3
          clear hc3
          have e1 : IntKind.i64.wrap ((j : Int) + 1) = (j : Int) + 1 := IntWalk.i64_in _ (by omega)
          have e2 : (0 : Int) ≤ (j : Int) + 1 := by omega
          have e3 : ((j : Int) + 1).toNat = j + 1 := by omega
          have e5 : (j : Int) + 1 ≤ (c1 : Int) := by omega
          have e6 : (j : Int) ≤ (j : Int) + 1 := by omega
          have e8 : ¬ c1 = j := by omega
          have e9 : j ≤ c1 := by omega
          have e10 : j + 1 ≤ c1 := by omega
          have j0 : (0 : Int) ≤ (j : Int) := by omega
          go_wp2_with fail
          go_region_law (refine step_copy_none rfl (.tmp 52) (.tmp 55) rfl (if c1 = j + 1 then some ⟨g1, 0, none⟩ else some ⟨g1, (j + 1) * 9, none⟩) (j + 1 - (j + 1)) (c1 - (j + 1)) (by simp [Act.eval, Act.put]) (some ⟨g1, j * 9, none⟩) (j + 1 - j) (c1 - j) (by simp [Act.eval, Act.put]) (by omega) ?_)
          generalize (if c1 = j + 1 then some (⟨g1, 0, none⟩ : Addr) else some ⟨g1, (j + 1) * 9, none⟩) = dp
          have W3 : Hid (w1.drew.ownsRow w.heap.size 26 9 (.slice (some ⟨g1, 0, none⟩) (j + 1) c1) (j + 1) (cellsT (out ++ [zeroT])) ∧ Below w.heap.size w w1.drew) := Lib.hid ⟨own_slice_below O1.out ⟨rfl, rfl, rfl, Nat.le_refl _, fun _ _ => rfl⟩, HB1.out.trans ⟨rfl, rfl, rfl, Nat.le_refl _, fun _ _ => rfl⟩⟩
          generalize w1.drew = w2 at W3 ⊢
          have HPL : Hid ((out ++ [zeroT]).length = j + 1) := Lib.hid (by rw [List.length_append, ← HM.out]; rfl)
          obtain ⟨z, hz⟩ : ∃ z, (out ++ [zeroT])[j]? = some z := ⟨_, List.getElem?_eq_getElem (by rw [HPL.out]; omega)⟩
          have hnz := (owns_row W3.out.1).nine hz
          rw [Nat.zero_add] at hnz
          obtain ⟨c0, c1', c2, c3, c4, c5, c6, c7, c8⟩ := hnz
          have hfz : ∀ i, w2.frozen? ⟨g1, i, none⟩ = false := fun i => W3.out.1.frozenAt i
          obtain ⟨b0, b1, b2, b3, b4, b5, b6, b7, b8⟩ := (HR.out.below W3.out.2).nine HX.out
          have hjm1 : (j : Int) < (j : Int) + 1 := by omega
          have hjm2 : j < j + 1 := by omega
          clear hz
          go_wp2_with fail
          go_roundg (n - (k + 1))
          case measure => omega
          case rel =>
            have hins0 : insL cmpT x out = out.take j ++ x :: out.drop j := insL_put x out j HL.out (by rw [← HM.out]; exact Nat.le_refl _) (fun y' hy' => by rw [List.getElem?_eq_none (by rw [← HM.out]; exact Nat.le_refl _)] at hy'; cases hy')
            have hins : insL cmpT x out = (out ++ [zeroT]).set j x := by
              rw [hins0, ← put_in out j x (by rw [← HM.out]; exact Nat.le_refl _), List.drop_of_length_le (by rw [← HM.out]; exact Nat.le_refl _)]
              rfl
            have hnl : (insL cmpT x out).length = j + 1 := by rw [hins, List.length_set, HPL.out]
            refine ⟨k + 1, by omega, Nat.le_refl _, by go_num, Lib.hid ⟨some ⟨g1, 0, none⟩, c1, insL cmpT x out, by rw [hnl], fun _ => ⟨g1, rfl⟩, (congrArg (insL cmpT x) HOUT.out).trans (sortL_next HX.out).symm, by rw [hnl]; omega, ?_, ?_⟩⟩
            · rw [hnl, hins, ← cellsT_set (by rw [HPL.out]; omega)]
              exact owns_setCells (encT x) (j * 9) _ _ W3.out.1
            · exact Go.below_setCells HG1.out (encT x) (j * 9) _ W3.out.2
    · have d1 : decide ((k : Int) < (n : Int)) = false := by simpa using hlt
      have hkn : k = n := by omega
      subst hkn
      obtain ⟨ao, ocap, out, hv, hao, hout, hol, hown, hB⟩ := HS.out
      have FIN : Hid (wr.ownsRow w.heap.size 26 9 u3 (sortL cmpT ds).length (cellsT (sortL cmpT ds)) ∧ Below w.heap.size w wr) := Lib.hid (by
        rw [List.take_of_length_le (by have := HN.out; omega)] at hout
        subst hout
        exact ⟨hown, hB⟩)
      clear hv hao hout hol hown hB HS
      go_wp2_with fail
      go_ret
      exact ⟨_, rfl, FIN.out⟩

set_option maxRecDepth 100000 in
theorem refSort_nil (w : World) : Calls Tryd.prog 10 #[.slice none 0 0] w fun e w' => e = .returned (.slice none 0 0) ∧ Below w.heap.size w w' := by
  go_enter Tryd.func10, Tryd.ntmps10
  go_wp2
  refine wp_loop_rounds 1 ?_
  rw [rounds_succ]
  go_wp2
  go_ret
  exact ⟨rfl, Below.refl _ _⟩
/-- The reference's Sort. -/
theorem refSort_any (v : Value) (ds : List TripD) (w : World) (hv : SliceT w v ds) (hs : ds.length ≤ 1000000) :
    Calls Tryd.prog 10 #[v] w fun e w' => ∃ r, e = .returned r ∧ w'.ownsRow w.heap.size 26 9 r (sortL cmpT ds).length (cellsT (sortL cmpT ds)) ∧ Below w.heap.size w w' := by
  rcases hv with ⟨rfl, rfl⟩ | ⟨b, off, cap, rfl, h1, h2, hr⟩
  · exact (refSort_nil w).mono fun e w' ⟨he, hB⟩ => ⟨_, he, World.ownsRow_nil _ _ _ _, hB⟩
  · exact refSort_some b off cap ds w h1 hs hr
end Go.Proofs.YtjpppfcbhkbbpaaDoor
