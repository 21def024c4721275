/-
  ARGUMENTS: slices of acts, slices of rows, a row: opened to their cells.
-/
import Derived.Test.YtnmimagcmmdolaaTbDo
import Derived.ProofKit
import Derived.OpenShut
import Derived.ShutString
import Derived.ChangeOld
import Derived.Deep.Slices
namespace Go.Proofs.Ytnmimagcmmdolaa
open Go.ChangeShapes Go.WideShapes Go.ChangeAt Go.RowKit Go.Deep
set_option linter.unusedVariables false
set_option maxRecDepth 100000

theorem list_of8 {α : Type} {p : Nat → α → Prop} : ∀ n : Nat, (∀ i, i < n → ∃ x, p i x) → ∃ l : List α, l.length = n ∧ ∀ i x, l[i]? = some x → p i x
  | 0, _ => ⟨[], rfl, fun i x h => by simp at h⟩
  | n + 1, h => by
    obtain ⟨l, hl, hp⟩ := list_of8 n (fun i hi => h i (by omega))
    obtain ⟨x, hx⟩ := h n (by omega)
    refine ⟨l ++ [x], by simp [hl], fun i y hy => ?_⟩
    by_cases hi : i < n
    · rw [List.getElem?_append_left (by omega)] at hy
      exact hp i y hy
    · have hi' : i < (l ++ [x]).length := (List.getElem?_eq_some_iff.1 hy).1
      have : i = n := by simp [hl] at hi'; omega
      subst this
      rw [List.getElem?_append_right (by omega), hl, Nat.sub_self] at hy
      simp at hy
      exact hy ▸ hx
/-- A slice argument of elements of k cells. -/
def SliceK {α : Type} (c : α → List Value) (w : World) (v : Value) (xs : List α) : Prop :=
  (v = .slice none 0 0 ∧ xs = []) ∨ ∃ b off cap, v = .slice (some ⟨b, off, none⟩) xs.length cap ∧ xs.length ≤ cap ∧ cap ≤ maxLen ∧ ∀ j u, (xs.flatMap c)[j]? = some u → w.cell? ⟨b, off + j, none⟩ = some u
theorem open_sliceK {H : Type} {enc : TypeId × Value → H} {w : World} {base b0 : Nat} {spare : Nat → Bool} {held : Bool} {r : Reach} {v : Value} {d : DataW H} {ps : List MemPlace} {T E : TypeId} (hu : Try.prog.underlying T = some (.slice E)) {k : Nat} (hk0 : 0 < k) (hk : Try.prog.cellsOf E = k)
    {α : Type} (c : α → List Value) (hcl : ∀ x, (c x).length = k) (ok : α → Prop) (hE : ∀ (fuel : Nat) (cs : List Value) (x : DataW H × List MemPlace), DataW.trod enc Try.prog w base spare held fuel E cs = some x → ∃ a, cs = c a ∧ ok a)
    (hval : Value.okWide Try.prog w r b0 T v) (hd : DataW.Trod enc Try.prog w base spare held T v d ps) : ∃ xs : List α, SliceK c w v xs ∧ ∀ x ∈ xs, ok x := by
  obtain ⟨ao, len, cap, rfl⟩ := okWide_slice hu hval
  obtain ⟨fuel, hf⟩ := hd
  rcases open_slice hu hf with ⟨hcs, _⟩ | ⟨a, len', cap', m, n, D, Pl, hcs, hb, hl, hm, hmm, hx, hi⟩
  · simp [Value.cells] at hcs
    obtain ⟨rfl, rfl, rfl⟩ := hcs
    exact ⟨[], .inl ⟨rfl, rfl⟩, fun t h => by cases h⟩
  · simp [Value.cells] at hcs
    obtain ⟨rfl, rfl, rfl⟩ := hcs
    have hspot : a.spot = none := by
      simp only [Value.okWide, hu, Cell.okWide, Cell.ok] at hval
      exact hval.2.2.2.1
    obtain ⟨b, off, sp⟩ := a
    dsimp only at hspot
    subst hspot
    have hlm : len ≤ m := by rw [hmm]; split <;> omega
    have one : ∀ i, i < len → ∃ x : α, ok x ∧ ∀ j u, (c x)[j]? = some u → w.cell? ⟨b, off + (i * k + j), none⟩ = some u := fun i hil => by
      obtain ⟨cs', hc, ht⟩ := hi i (by omega)
      rw [hk] at hc
      obtain ⟨x, rfl, hx⟩ := hE _ _ _ ht
      obtain ⟨_, hcl2, hat⟩ := World.cells?_some hc
      refine ⟨x, hx, fun j u hu => ?_⟩
      have hc9 : j < k := by have := (List.getElem?_eq_some_iff.1 hu).1; rwa [hcl] at this
      have h1 := hat j hc9
      have e : ((⟨b, off, none⟩ : Addr).add (i * k)).add j = ⟨b, off + (i * k + j), none⟩ := by
        unfold Addr.add; split <;> (split <;> simp_all [Nat.add_assoc])
      rw [e] at h1
      rw [h1]
      exact hu
    obtain ⟨xs, hdl, hdp⟩ := list_of8 len one
    refine ⟨xs, .inr ⟨b, off, cap, by rw [hdl], by omega, hm, fun j u hu => ?_⟩, fun t ht => ?_⟩
    rotate_left
    · obtain ⟨p, hp⟩ := List.getElem?_of_mem ht
      exact (hdp p t hp).1
    have hj : j < xs.length * k := by have := (List.getElem?_eq_some_iff.1 hu).1; rwa [flat_len c k hcl] at this
    obtain ⟨p, q, rfl, hq⟩ : ∃ p q, j = p * k + q ∧ q < k := ⟨j / k, j % k, by rw [Nat.mul_comm]; exact (Nat.div_add_mod j k).symm, Nat.mod_lt _ hk0⟩
    have hpl : p < xs.length := by
      by_cases h : p < xs.length
      · exact h
      · have := Nat.mul_le_mul_right k (Nat.le_of_not_lt h)
        omega
    obtain ⟨x, hxp⟩ : ∃ x, xs[p]? = some x := ⟨_, List.getElem?_eq_getElem hpl⟩
    rw [flat_get c k hcl xs p q x hxp hq] at hu
    exact (hdp p x hxp).2 q u hu
theorem cells_u32 : Try.prog.cellsOf 32 = 1 := by kernel_rfl
theorem cells_u8 : Try.prog.cellsOf 35 = 1 := by kernel_rfl
theorem cells_i64 : Try.prog.cellsOf 3 = 1 := by kernel_rfl
theorem cells_row8 : Try.prog.cellsOf 34 = 3 := by kernel_rfl
theorem cells_act : Try.prog.cellsOf 37 = 7 := by kernel_rfl
theorem u32_wf {n : Int} (h : (Lit.int .u32 n).wf = true) : ∃ m : Nat, n = (m : Int) ∧ m < 4294967296 := by
  have a : IntKind.u32.bits = 32 := rfl
  have b : IntKind.u32.signed = false := rfl
  simp [Lit.wf, IntKind.min, IntKind.max, a, b] at h
  exact ⟨n.toNat, by omega, by omega⟩
theorem u8_wf {n : Int} (h : (Lit.int .u8 n).wf = true) : ∃ m : Nat, n = (m : Int) ∧ m < 256 := by
  have a : IntKind.u8.bits = 8 := rfl
  have b : IntKind.u8.signed = false := rfl
  simp [Lit.wf, IntKind.min, IntKind.max, a, b] at h
  exact ⟨n.toNat, by omega, by omega⟩
section
variable {H : Type} {enc : TypeId × Value → H} {w : World} {base : Nat} {spare : Nat → Bool} {held : Bool} {fuel : Nat}
theorem trod_row8 {cs : List Value} {x : DataW H × List MemPlace} (h : DataW.trod enc Try.prog w base spare held fuel 34 cs = some x) : ∃ r : RowN, cs = [.int .u32 (r.1 : Int), .int .u32 (r.2.1 : Int), .int .u32 (r.2.2 : Int)] ∧ okN r ∧ x.2 = [] ∧ x.1 = .agg [.lit (.int .u32 (r.1 : Int)), .lit (.int .u32 (r.2.1 : Int)), .lit (.int .u32 (r.2.2 : Int))] := by
  obtain ⟨xs, m, _, hx, hl, hlen, hf⟩ := DataW.trod_array Try.underlying34 h
  rw [cells_row8] at hl
  rw [cells_u32] at hf
  match cs, hl with
  | [v0, v1, v2], _ =>
    match xs, hlen with
    | [y0, y1, y2], _ =>
      obtain ⟨a, e0, f0, wa⟩ := DataW.trod_int Try.underlying32 (hf 0 (by decide))
      obtain ⟨b, e1, f1, wb⟩ := DataW.trod_int Try.underlying32 (hf 1 (by decide))
      obtain ⟨c, e2, f2, wc⟩ := DataW.trod_int Try.underlying32 (hf 2 (by decide))
      simp at e0 e1 e2
      subst e0 e1 e2
      obtain ⟨a, rfl, ha⟩ := u32_wf wa
      obtain ⟨b, rfl, hb⟩ := u32_wf wb
      obtain ⟨c, rfl, hc⟩ := u32_wf wc
      refine ⟨(a, b, c), rfl, ⟨ha, hb, hc⟩, ?_, ?_⟩
      · rw [hx, f0, f1, f2]; rfl
      · rw [hx, f0, f1, f2]; rfl
theorem trod_act {cs : List Value} {x : DataW H × List MemPlace} (h : DataW.trod enc Try.prog w base spare held fuel 37 cs = some x) : ∃ a : ActN, cs = (actC a).toList ∧ okA a := by
  obtain ⟨xs, n, _, hx, hl, hlen, hf⟩ := DataW.trod_struct Try.underlying37 h
  rw [cells_act] at hl
  match cs, hl with
  | [v0, v1, v2, v3, v4, v5, v6], _ =>
    match xs, hlen with
    | [y0, y1, y2, y3, y4], _ =>
      have h0 := hf 0 { name := "Kind", type := 3, offset := 0, embedded := false, tag := "", pkgPath := "", byteOffset := 0 } rfl
      have h1 := hf 1 { name := "Row", type := 34, offset := 1, embedded := false, tag := "", pkgPath := "", byteOffset := 8 } rfl
      have h2 := hf 2 { name := "Bits", type := 35, offset := 4, embedded := false, tag := "", pkgPath := "", byteOffset := 20 } rfl
      have h3 := hf 3 { name := "N", type := 3, offset := 5, embedded := false, tag := "", pkgPath := "", byteOffset := 24 } rfl
      have h4 := hf 4 { name := "To", type := 3, offset := 6, embedded := false, tag := "", pkgPath := "", byteOffset := 32 } rfl
      dsimp only at h0 h1 h2 h3 h4
      rw [cells_i64] at h0 h3 h4
      rw [cells_row8] at h1
      rw [cells_u8] at h2
      obtain ⟨k0, e0, _, w0⟩ := DataW.trod_int Try.underlying3 h0
      obtain ⟨r, e1, w1, _⟩ := trod_row8 h1
      obtain ⟨k2, e2, _, w2⟩ := DataW.trod_int Try.underlying35 h2
      obtain ⟨k3, e3, _, w3⟩ := DataW.trod_int Try.underlying3 h3
      obtain ⟨k4, e4, _, w4⟩ := DataW.trod_int Try.underlying3 h4
      simp at e0 e1 e2 e3 e4
      obtain ⟨b, rfl, hb⟩ := u8_wf w2
      obtain ⟨e11, e12, e13⟩ := e1
      subst e0 e11 e12 e13 e2 e3 e4
      exact ⟨⟨k0, r, b, k3, k4⟩, rfl, w1, hb⟩
theorem open_row8 {r : Reach} {b0 : Nat} {v : Value} {d : DataW H} {ps : List MemPlace} (hval : Value.okWide Try.prog w r b0 34 v) (hd : DataW.Trod enc Try.prog w base spare held 34 v d ps) :
    ∃ q : RowN, v = rowV q ∧ ps = [] ∧ okN q := by
  have h1 : ∃ cs, v = .agg cs := by
    simp only [Value.okWide, Try.underlying34] at hval
    obtain ⟨cs, h1, _⟩ := hval
    exact ⟨cs, h1⟩
  obtain ⟨cs, rfl⟩ := h1
  obtain ⟨fuel, hf⟩ := hd
  obtain ⟨q, e, hq, hx, _⟩ := trod_row8 hf
  refine ⟨q, ?_, hx, hq⟩
  simp only [Value.cells] at e
  have : cs = cs.toList.toArray := by simp
  rw [this, e]
end
abbrev actL (a : ActN) : List Value := (actC a).toList
theorem open_acts {H : Type} {enc : TypeId × Value → H} {w : World} {base b0 : Nat} {spare : Nat → Bool} {held : Bool} {r : Reach} {v : Value} {d : DataW H} {ps : List MemPlace}
    (hval : Value.okWide Try.prog w r b0 22 v) (hd : DataW.Trod enc Try.prog w base spare held 22 v d ps) : ∃ xs : List ActN, SliceK actL w v xs ∧ ∀ x ∈ xs, okA x :=
  open_sliceK Try.underlying22 (by omega) cells_act actL (fun _ => rfl) okA (fun fuel cs x h => trod_act h) hval hd
theorem open_rows8 {H : Type} {enc : TypeId × Value → H} {w : World} {base b0 : Nat} {spare : Nat → Bool} {held : Bool} {r : Reach} {v : Value} {d : DataW H} {ps : List MemPlace}
    (hval : Value.okWide Try.prog w r b0 27 v) (hd : DataW.Trod enc Try.prog w base spare held 27 v d ps) : ∃ xs : List RowN, SliceK (fun r : RowN => [.int .u32 (r.1 : Int), .int .u32 (r.2.1 : Int), .int .u32 (r.2.2 : Int)]) w v xs ∧ ∀ x ∈ xs, okN x :=
  open_sliceK Try.underlying27 (by omega) cells_row8 _ (fun _ => rfl) okN (fun fuel cs x h => by obtain ⟨r, h1, h2, _⟩ := trod_row8 h; exact ⟨r, h1, h2⟩) hval hd
theorem laidOut8 : laidOutB Try.prog = true := by kernel_rfl
end Go.Proofs.Ytnmimagcmmdolaa
