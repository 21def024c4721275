/-
  CONTRACTS OF pack, unpack.
-/
import Derived.Test.YtlamdhklfibjmaaDoorDictSlot
import Derived.Laws.MakeOwn
import Derived.Test.YtlamdhklfibjmaaDoorSortOwn
import Derived.Deep.AppendLies
import Derived.Lib.AppendStr
namespace Go.Proofs.YtlamdhklfibjmaaDoor
open Go.RowKit
open Utf Term Go.Lib
set_option linter.unusedVariables false
set_option linter.unusedSimpArgs false

theorem info_partsP {e : TypeId} {z : Value} {s b : Nat} (h : (Tryd.prog.info? e).map (fun i => (i.zero, i.size, i.bytes)) = some (some z, s, b)) : ∃ i, Tryd.prog.info? e = some i ∧ i.zero = some z ∧ i.size = s ∧ i.bytes = b := by
  cases hq : Tryd.prog.info? e with
  | none => rw [hq] at h; cases h
  | some i =>
    rw [hq] at h
    simp at h
    exact ⟨i, rfl, h.1, h.2.1, h.2.2⟩
theorem info_byteP : (Tryd.prog.info? 5).map (fun i => (i.zero, i.size, i.bytes)) = some (some (.int .u8 0), 1, 1) := by kernel_rfl

/-- A term as bytes. -/
def packL (a : TermD) : List Int := a.1 :: (bs a.2.1 ++ (255 :: bs a.2.2))
theorem packL_length (a : TermD) : (packL a).length = a.2.1.size + a.2.2.size + 2 := by
  unfold packL
  rw [List.length_cons, List.length_append, List.length_cons, bs_length, bs_length]
  omega
theorem split_first {x : Int} : ∀ {l l' r r' : List Int}, x ∉ l → x ∉ l' → l ++ x :: r = l' ++ x :: r' → l = l' ∧ r = r'
  | [], [], _, _, _, _, h => ⟨rfl, by simpa using h⟩
  | [], b :: l', _, _, _, h2, h => by
    simp at h
    exact absurd (h.1 ▸ List.mem_cons_self) h2
  | a :: l, [], _, _, h1, _, h => by
    simp at h
    exact absurd (h.1 ▸ List.mem_cons_self) h1
  | a :: l, b :: l', _, _, h1, h2, h => by
    rw [List.cons_append, List.cons_append, List.cons.injEq] at h
    obtain ⟨e1, e2⟩ := split_first (fun hx => h1 (List.mem_cons_of_mem _ hx)) (fun hx => h2 (List.mem_cons_of_mem _ hx)) h.2
    exact ⟨by rw [h.1, e1], e2⟩
/-- Unlike terms have unlike bytes, if byte 255 is in no text. -/
theorem packL_inj {a b : TermD} (ha : 255 ∉ bs a.2.1) (hb : 255 ∉ bs b.2.1) (h : packL a = packL b) : a = b := by
  unfold packL at h
  rw [List.cons.injEq] at h
  obtain ⟨h1, h2⟩ := split_first ha hb h.2
  obtain ⟨k, t, x⟩ := a
  obtain ⟨k', t', x'⟩ := b
  dsimp only at *
  rw [h.1, bs_inj h1, bs_inj h2]
theorem packL_bytes {a : TermD} (hk : IsByte a.1) : ∀ c ∈ packL a, IsByte c := by
  intro c hc
  unfold packL at hc
  rcases List.mem_cons.1 hc with rfl | hc
  · exact hk
  · rcases List.mem_append.1 hc with hc | hc
    · exact bs_byte _ c hc
    · rcases List.mem_cons.1 hc with rfl | hc
      · unfold IsByte; omega
      · exact bs_byte _ c hc

theorem pack_alloc {B : Nat} {w0 W W' : World} {o : Obj} {v : Value} {n : Nat} {xs : List Value} (h : Below B w0 W) (hB : B ≤ w0.heap.size) (ho : W.ownsRow B 5 1 v n xs) (hg : (W.alloc o).grownBy W' v.ownBlock) : Below B w0 W' :=
  (h.alloc (Nat.le_trans hB h.size) o).grown hg (by have := h.size; simp; omega) (fun j hj => (ho.lt j hj).1)
theorem pack_text {B : Nat} {w0 W W' : World} {v : Value} {n : Nat} {xs : List Value} (h : Below B w0 W) (hB : B ≤ w0.heap.size) (ho : W.ownsRow B 5 1 v n xs) (hg : W.grownBy W' v.ownBlock) : Below B w0 W' :=
  h.grown hg (by have := h.size; omega) (fun j hj => (ho.lt j hj).1)
theorem strCells_bs (s : ByteArray) : Lib.strCells s = (bs s).map (Value.int .u8) := by
  unfold Lib.strCells bs
  rw [List.map_map]
  rfl

set_option maxRecDepth 100000 in
set_option maxHeartbeats 2000000 in
theorem pack_any (a : TermD) (hk : IsByte a.1) (ht : a.2.1.size ≤ 1000000000) (hx : a.2.2.size ≤ 1000000000) (w : World) :
    Calls Tryd.prog 23 #[termD a] w fun e w' => ∃ g c, e = .returned (.slice (some ⟨g, 0, none⟩) (packL a).length c) ∧ RowC w' g 0 ((packL a).map (Value.int .u8)) ∧ w.heap.size ≤ g ∧ Below w.heap.size w w' := by
  obtain ⟨k, t, x⟩ := a
  dsimp only at *
  have w1 : IntKind.i64.wrap ((t.size : Int) + (x.size : Int)) = (t.size : Int) + (x.size : Int) := IntWalk.i64_in _ (by omega)
  have w2 : IntKind.i64.wrap ((t.size : Int) + (x.size : Int) + 2) = (t.size : Int) + (x.size : Int) + 2 := IntWalk.i64_in _ (by omega)
  have wk : IntKind.u8.wrap k = k := by rw [IntKind.wrap_u8]; unfold IsByte at hk; omega
  obtain ⟨i0, hi, hz0, hz1, hz2⟩ := info_partsP info_byteP
  have B0 := Lib.hid (below_new w (.cells #[.int .i64 k, .string t, .string x] 34))
  have C0 : Hid ((w.alloc (.cells #[.int .i64 k, .string t, .string x] 34)).cell? ⟨w.heap.size, 0, none⟩ = some (.int .i64 k) ∧ (w.alloc (.cells #[.int .i64 k, .string t, .string x] 34)).cell? ⟨w.heap.size, 1, none⟩ = some (.string t) ∧ (w.alloc (.cells #[.int .i64 k, .string t, .string x] 34)).cell? ⟨w.heap.size, 2, none⟩ = some (.string x)) :=
    Lib.hid ⟨by rw [World.cell?_alloc_at _ _ _ _ rfl]; rfl, by rw [World.cell?_alloc_at _ _ _ _ rfl]; rfl, by rw [World.cell?_alloc_at _ _ _ _ rfl]; rfl⟩
  obtain ⟨w1, hmk, hown1, hgr1⟩ := run_make_own (P := Tryd.prog) (w.alloc (.cells #[.int .i64 k, .string t, .string x] 34)) (w.alloc (.cells #[.int .i64 k, .string t, .string x] 34)).heap.size 44 5 i0 _ 1 Tryd.underlying44 hi hz0 hz1 .i64 .i64 (t.size + x.size + 2) (by rw [hz2]; omega) (by unfold maxLen; omega) (Nat.le_refl _)
  rw [show ((t.size + x.size + 2 : Nat) : Int) = (t.size : Int) + (x.size : Int) + 2 by omega] at hmk
  have hsz0 : (w.alloc (.cells #[.int .i64 k, .string t, .string x] 34)).heap.size = w.heap.size + 1 := by simp
  have BW1 : Hid (Below (w.heap.size + 1) (w.alloc (.cells #[.int .i64 k, .string t, .string x] 34)) w1) := Lib.hid (by
    have := (Below.refl (w.heap.size + 1) (w.alloc (.cells #[.int .i64 k, .string t, .string x] 34))).grown hgr1 (by rw [hsz0]; exact Nat.le_refl _) (fun j h => by cases h)
    exact this)
  rw [hsz0] at hown1 hmk
  have O1 := Lib.hid hown1
  clear hown1 hgr1
  have hB0 : Hid (w.heap.size + 1 ≤ (w.alloc (.cells #[.int .i64 k, .string t, .string x] 34)).heap.size) := Lib.hid (by rw [hsz0]; exact Nat.le_refl _)
  clear hsz0
  generalize hw0 : w.alloc (.cells #[.int .i64 k, .string t, .string x] 34) = w0 at *
  have KEEP : Hid (∀ W, Below (w.heap.size + 1) w0 W → W.cell? ⟨w.heap.size, 0, none⟩ = some (.int .i64 k) ∧ W.cell? ⟨w.heap.size, 1, none⟩ = some (.string t) ∧ W.cell? ⟨w.heap.size, 2, none⟩ = some (.string x)) := Lib.hid (fun W hW =>
    ⟨(hW.cell (Nat.lt_succ_self _)).trans C0.out.1, (hW.cell (Nat.lt_succ_self _)).trans C0.out.2.1, (hW.cell (Nat.lt_succ_self _)).trans C0.out.2.2⟩)
  have z0 := C0.out.1
  have z1 := C0.out.2.1
  have z2 := C0.out.2.2
  obtain ⟨k0, k1, k2⟩ := KEEP.out _ BW1.out
  clear C0
  subst hw0
  go_enter Tryd.func23, Tryd.ntmps23
  go_wp2_with (first | (at_builtin; refine wpList_append_own_string _ rfl _ _ 44 9 rfl (w.heap.size + 1) 5 i0 Tryd.underlying44 Tryd.underlying9 hi hz0 hz1 hz2 _ _ _ rfl O4.out x rfl (by unfold maxLen; omega) (by omega) (by have := BW4.out.size; have := hB0.out; omega) ?_; intro v5 w5 hown hgr _; have BW5 := Lib.hid (pack_text BW4.out hB0.out O4.out hgr); have m0w5 := (KEEP.out _ BW5.out).1; have m1w5 := (KEEP.out _ BW5.out).2.1; have m2w5 := (KEEP.out _ BW5.out).2.2; have O5 := Lib.hid hown; clear hown hgr) | (at_builtin; refine wpList_append_own _ rfl _ _ 44 rfl (w.heap.size + 1) 5 i0 (.int .u8 0) 1 1 Tryd.underlying44 hi hz0 hz1 hz2 rfl (by decide) _ _ _ rfl (O3.out.alloc _) ⟨w3.heap.size, 0, none⟩ 1 1 [.int .u8 255] rfl rfl (cells_new w3 #[.int .u8 255] 5 [.int .u8 255] (fun j u h => by simpa using h)) (by intro u hu; simp at hu; subst hu; rfl) (by unfold maxLen; omega) (by omega) (by have := BW3.out.size; have := hB0.out; show _ ≤ (World.alloc _ _).heap.size; simp only [World.alloc, Array.size_push]; omega) ?_; intro v4 w4 hown hgr _; have BW4 := Lib.hid (pack_alloc BW3.out hB0.out O3.out hgr); have m0w4 := (KEEP.out _ BW4.out).1; have m1w4 := (KEEP.out _ BW4.out).2.1; have m2w4 := (KEEP.out _ BW4.out).2.2; have O4 := Lib.hid hown; clear hown hgr) | (at_builtin; refine wpList_append_own_string _ rfl _ _ 44 9 rfl (w.heap.size + 1) 5 i0 Tryd.underlying44 Tryd.underlying9 hi hz0 hz1 hz2 _ _ _ rfl O2.out t rfl (by unfold maxLen; omega) (by omega) (by have := BW2.out.size; have := hB0.out; omega) ?_; intro v3 w3 hown hgr _; have BW3 := Lib.hid (pack_text BW2.out hB0.out O2.out hgr); have m0w3 := (KEEP.out _ BW3.out).1; have m1w3 := (KEEP.out _ BW3.out).2.1; have m2w3 := (KEEP.out _ BW3.out).2.2; have O3 := Lib.hid hown; clear hown hgr) | (at_builtin; refine wpList_append_own _ rfl _ _ 44 rfl (w.heap.size + 1) 5 i0 (.int .u8 0) 1 1 Tryd.underlying44 hi hz0 hz1 hz2 rfl (by decide) _ _ _ rfl (O1.out.alloc _) ⟨w1.heap.size, 0, none⟩ 1 1 [.int .u8 k] rfl rfl (cells_new w1 #[.int .u8 k] 5 [.int .u8 k] (fun j u h => by simpa using h)) (by intro u hu; simp at hu; subst hu; rfl) (by unfold maxLen; omega) (by omega) (by have := BW1.out.size; have := hB0.out; show _ ≤ (World.alloc _ _).heap.size; simp only [World.alloc, Array.size_push]; omega) ?_; intro v2 w2x hown hgr _; have BW2 := Lib.hid (pack_alloc BW1.out hB0.out O1.out hgr); have m0w2x := (KEEP.out _ BW2.out).1; have m1w2x := (KEEP.out _ BW2.out).2.1; have m2w2x := (KEEP.out _ BW2.out).2.2; have O2 := Lib.hid hown; clear hown hgr))
  have HF : Hid (∃ g c, v5 = .slice (some ⟨g, 0, none⟩) (packL (k, t, x)).length c ∧ RowC w5 g 0 ((packL (k, t, x)).map (Value.int .u8)) ∧ w.heap.size ≤ g ∧ Below w.heap.size w w5) := Lib.hid (by
    have h := O5.out
    have hl : 0 + 1 + t.size + 1 + x.size = (packL (k, t, x)).length := by rw [packL_length]; dsimp only; omega
    have hc : [] ++ [Value.int .u8 k] ++ strCells t ++ [Value.int .u8 255] ++ strCells x = (packL (k, t, x)).map (Value.int .u8) := by
      rw [strCells_bs, strCells_bs]
      simp [packL]
    rw [hl, hc] at h
    obtain ⟨g, c, rfl, hg, _⟩ := h.form (by rw [packL_length]; omega)
    exact ⟨g, c, rfl, owns_row h, by omega, B0.out.trans (BW5.out.mono (Nat.le_succ _))⟩)
  go_ret
  obtain ⟨g, c, e1, e2⟩ := HF.out
  exact ⟨g, c, by rw [← e1]; rfl, e2⟩
end Go.Proofs.YtlamdhklfibjmaaDoor
