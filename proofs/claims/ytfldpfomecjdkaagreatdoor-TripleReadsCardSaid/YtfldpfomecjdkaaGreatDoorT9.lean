/-
  WHAT THE PROOF STANDS ON, a part of it: SliceAppend.
-/
import Derived.Test.YtfldpfomecjdkaaGreatDoorT4
import Derived.Test.YtfldpfomecjdkaaGreatDoorT8
import Derived.Deep.AppendLies
import Derived.Deep.Upon
/-
  append OF A SLICE OF TRIPLES TO A ROW OF THE CALL's OWN. CONTRACT OF Much over a slice.
-/

namespace Go.Proofs.YtfldpfomecjdkaaGreatDoor
open Go.RowKit
open Utf Term
set_option linter.unusedVariables false
set_option linter.unusedSimpArgs false

theorem info_tripleS : (Tryz.prog.info? 51).map (fun i => (i.zero, i.size, i.bytes)) = some (some (tripleV (0, ⟨#[]⟩, ⟨#[]⟩) (0, ⟨#[]⟩, ⟨#[]⟩) (0, ⟨#[]⟩, ⟨#[]⟩)), 9, 120) := by kernel_rfl
theorem info_partsS {e : TypeId} {z : Value} {s b : Nat} (h : (Tryz.prog.info? e).map (fun i => (i.zero, i.size, i.bytes)) = some (some z, s, b)) : ∃ i, Tryz.prog.info? e = some i ∧ i.zero = some z ∧ i.size = s ∧ i.bytes = b := by
  cases hq : Tryz.prog.info? e with
  | none => rw [hq] at h; cases h
  | some i =>
    rw [hq] at h
    simp at h
    exact ⟨i, rfl, h.1, h.2.1, h.2.2⟩

/-- What an own row's value looks like. -/
theorem owns_form {w : World} {base : Nat} {e : TypeId} {size : Nat} {v : Value} {n : Nat} {xs : List Value} (h : w.ownsRow base e size v n xs) : ∃ ao cap, v = .slice ao n cap ∧ n ≤ cap ∧ cap ≤ maxLen ∧ (0 < n → ∃ g, ao = some ⟨g, 0, none⟩) := by
  rcases h.2 with ⟨rfl, rfl⟩ | ⟨g, cap, cur, rfl, hb, hg, hnc, hcm, hcs, htake⟩
  · exact ⟨none, 0, rfl, Nat.le_refl _, Nat.zero_le _, fun h => absurd h (by omega)⟩
  · exact ⟨some ⟨g, 0, none⟩, cap, rfl, hnc, hcm, fun _ => ⟨g, rfl⟩⟩

theorem run_append_slice (w : World) (ty : TypeId) (base : Nat) (vb : Value) (bs : List TripD) (hown : w.ownsRow base 51 9 vb bs.length (cellsT bs)) (v : Value) (ds : List TripD) (hv : SliceT w v ds)
    (hb : bs.length ≤ 1000000000) (hd : ds.length ≤ 1000000000) (hbase : base ≤ w.heap.size) :
    ∃ v' w', (Builtin.append_ #[45, 45] ty #[vb, v]).run Tryz.prog w = .ok v' w' ∧ w'.ownsRow base 51 9 v' (bs ++ ds).length (cellsT (bs ++ ds)) ∧ Below base w w' := by
  obtain ⟨i0, hi, hz0, hz1, hz2⟩ := info_partsS info_tripleS
  rcases hv with ⟨rfl, rfl⟩ | ⟨b, off, cap, rfl, h1, h2, hr⟩
  · obtain ⟨ao, cap, rfl, hc, _, _⟩ := owns_form hown
    have hrun : (Builtin.append_ #[45, 45] ty #[.slice ao bs.length cap, .slice none 0 0]).run Tryz.prog w = .ok (.slice ao bs.length cap) w := by
      cases ao <;> simp [Builtin.append_, run_underlying Tryz.underlying45, sizeOf, typeInfo, hi, Builtin.lenOf, Builtin.firstCells, hc, storeCells]
    exact ⟨_, _, hrun, by rw [List.append_nil]; exact hown, Below.refl _ _⟩
  · obtain ⟨v', w', hrun, r1, r2, _⟩ := run_append_own (P := Tryz.prog) w base 45 ty 51 i0 _ 9 120 Tryz.underlying45 hi hz0 hz1 hz2 rfl (by decide) vb bs.length (cellsT bs) hown ⟨b, off, none⟩ ds.length cap (cellsT ds) (cellsT_length ds)
      (fun j u hu => by
        have e : (⟨b, off, none⟩ : Addr).add j = ⟨b, off + j, none⟩ := by unfold Addr.add; split <;> simp_all
        rw [e]; exact hr j u hu) (cellsT_one ds) (by unfold maxLen; omega) (by omega) hbase
    exact ⟨v', w', hrun, by rw [List.length_append, cellsT_append]; exact r1, (Below.refl base w).grown r2 hbase (fun k hk => (hown.lt k hk).1)⟩

section
variable {w : World} {ops : Array Oper} {rest : List Oper} {o : Oper} {a : Act} {Q : Exit → Act → World → Prop}
theorem wpList_append_slice (hgd : o.guard = none) (s x : Operand) (ho : o.op = .call { callee := .builtin .append, args := #[s, x], argTypes := #[45, 45] })
    (base : Nat) (vb : Value) (bs : List TripD) (hs : a.eval s = vb) (hown : w.ownsRow base 51 9 vb bs.length (cellsT bs)) (v : Value) (ds : List TripD) (hx : a.eval x = v) (hv : SliceT w v ds)
    (hb : bs.length ≤ 1000000000) (hd : ds.length ≤ 1000000000) (hbase : base ≤ w.heap.size)
    (h : ∀ v' w', w'.ownsRow base 51 9 v' (bs ++ ds).length (cellsT (bs ++ ds)) → Below base w w' → wpList Tryz.prog ops Q rest (a.put o.dst v') w') : wpList Tryz.prog ops Q (o :: rest) a w := by
  refine wpList_plain hgd fun K hK => ?_
  obtain ⟨v', w', hrun, r1, r2⟩ := run_append_slice w o.type base vb bs hown v ds hv hb hd hbase
  unfold Oper.wp
  simp [execOp, ho, resolve, invoke, builtin, hs, hx, hrun, Result.andThen]
  exact hK _ _ (h v' w' r1 r2)
end

/-- The terms of some triples. -/
def termsT (ds : List TripD) : List TermD := ds.flatMap fun x => [x.1, x.2.1, x.2.2]
theorem termsT_length : ∀ ds : List TripD, (termsT ds).length = ds.length * 3
  | [] => rfl
  | x :: ds => by
    show ([x.1, x.2.1, x.2.2] ++ termsT ds).length = _
    rw [List.length_append, termsT_length ds]
    simp only [List.length_cons, List.length_nil]
    omega
theorem termsT_get : ∀ (ds : List TripD) (p c : Nat) (q : TermD), c < 3 → (termsT ds)[p * 3 + c]? = some q → ∃ x : TripD, ds[p]? = some x ∧ [x.1, x.2.1, x.2.2][c]? = some q
  | [], _, _, _, _, h => by simp [termsT] at h
  | x :: ds, 0, c, q, hc, h => by
    have h : ([x.1, x.2.1, x.2.2] ++ termsT ds)[0 * 3 + c]? = some q := h
    rw [Nat.zero_mul, Nat.zero_add, List.getElem?_append_left (by simpa using hc)] at h
    exact ⟨x, rfl, h⟩
  | x :: ds, p + 1, c, q, hc, h => by
    have h : ([x.1, x.2.1, x.2.2] ++ termsT ds)[(p + 1) * 3 + c]? = some q := h
    rw [List.getElem?_append_right (by simp only [List.length_cons, List.length_nil]; omega)] at h
    simp only [List.length_cons, List.length_nil] at h
    rw [show (p + 1) * 3 + c - (0 + 1 + 1 + 1) = p * 3 + c by omega] at h
    obtain ⟨y, h1, h2⟩ := termsT_get ds p c q hc h
    exact ⟨y, by simpa using h1, h2⟩
theorem rowT_of {w : World} {b off : Nat} {ds : List TripD} (h : RowC w b off (cellsT ds)) : RowT w b off (termsT ds) := by
  intro p q hq
  obtain ⟨i, c, rfl, hc⟩ : ∃ i c, p = i * 3 + c ∧ c < 3 := ⟨p / 3, p % 3, by omega, by omega⟩
  obtain ⟨x, hx, hxc⟩ := termsT_get ds i c q hc hq
  have hn := h.nine hx
  match c, hc with
  | 0, _ =>
    simp at hxc
    subst hxc
    rw [show off + (i * 3 + 0) * 3 = off + i * 9 by omega]
    exact ⟨hn.c0, hn.c1, hn.c2⟩
  | 1, _ =>
    simp at hxc
    subst hxc
    rw [show off + (i * 3 + 1) * 3 = off + i * 9 + 3 by omega]
    exact ⟨hn.c3, hn.c4, hn.c5⟩
  | 2, _ =>
    simp at hxc
    subst hxc
    rw [show off + (i * 3 + 2) * 3 = off + i * 9 + 6 by omega]
    exact ⟨hn.c6, hn.c7, hn.c8⟩

set_option maxRecDepth 100000 in
theorem much_nil (most : Nat) (hm : most ≤ 1000000) (w : World) : Calls Tryz.prog 23 #[.slice none 0 0, .int .i64 most] w fun e w' => e = .returned (.bool false) ∧ Below w.heap.size w w' := by
  have d : decide ((most : Int) < 0) = false := by simp
  go_enter Tryz.func23, Tryz.ntmps23
  go_wp2
  refine wp_loop_rounds 1 ?_
  rw [rounds_succ]
  go_wp2
  go_ret
  exact ⟨rfl, Below.refl _ _⟩
theorem much_slice (v : Value) (ds : List TripD) (most : Nat) (hm : most ≤ 1000000) (w : World) (hv : SliceT w v ds) :
    Calls Tryz.prog 23 #[v, .int .i64 most] w fun e w' => ∃ r, e = .returned (.bool r) ∧ (r = false → ds.length ≤ most) ∧ Below w.heap.size w w' := by
  rcases hv with ⟨rfl, rfl⟩ | ⟨b, off, cap, rfl, h1, h2, hr⟩
  · exact (much_nil most hm w).mono fun e w' ⟨he, hB⟩ => ⟨false, he, fun _ => Nat.zero_le _, hB⟩
  · refine (much_any b off ds.length cap most (termsT ds) (termsT_length ds) (by unfold maxLen at h2; omega) hm w (rowT_of hr)).mono ?_
    rintro e w' ⟨r, he, hB, hf⟩
    exact ⟨r, he, fun h => by have := (hf h).1; rw [termsT_length] at this; omega, hB⟩
end Go.Proofs.YtfldpfomecjdkaaGreatDoor
