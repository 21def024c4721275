/-
  WHAT THE PROOF STANDS ON, a part of it: MapInt, TermMay, TermMay2, TripleD.
-/
import Derived.MapKept
import Derived.WideMake
import Derived.OwnWalk
import Derived.Below
import Derived.Maps.Own
import Derived.Test.YtlkiigoblkfkpaaGreatDoorC20
import Derived.Deep.RegionWith
import Derived.Test.YtlkiigoblkfkpaaGreatDoorC9
/-
  A MAP WITH INTEGER KEYS OF WHICH ALL ENTRIES ARE KNOWN: a new key comes behind; a look-up with 'ok'.
-/

namespace Go.Proofs.YtlkiigoblkfkpaaGreatDoor
open Go.RowKit

section
variable {P : Program} (w : World)

theorem isKey_int (q : IntKind) (i : Int) : MapKept.IsKey (.int q) (.int q i) := by simp [MapKept.IsKey]

theorem findNow_new (q : IntKind) (i : Int) : ∀ (l : List MapEntry) (n : Nat), (∀ x ∈ l, ∃ j, x.key = .int q j ∧ j ≠ i) → Instr.findNow (.int q) (.int q i) l n = some none
  | [], _, _ => rfl
  | e :: es, n, h => by
    obtain ⟨j, hj, hne⟩ := h e (by simp)
    have h1 : Instr.sameNow (.int q) (.int q i) e.key = some false := by
      rw [hj]
      simp [Instr.sameNow]
      exact fun h => hne h.symm
    unfold Instr.findNow
    rw [h1]
    exact findNow_new q i es (n + 1) fun x hx => h x (by simp [hx])

theorem run_insert_int {t k e : TypeId} {q : IntKind} (ht : P.underlying t = some (.map k e)) (hk : P.underlying k = some (.int q)) {b clock : Nat} {es : Array MapEntry} (hb : w.heap[b]? = some (.map es clock)) (i : Int) (val : Value)
    (hnew : ∀ x ∈ es.toList, ∃ j, x.key = .int q j ∧ j ≠ i) :
    (Instr.mapUpdate t (.map (some b)) (.int q i) val).run P w = .ok () { w with heap := w.heap.setIfInBounds b (.map (es.push { key := .int q i, val := val, born := clock }) (clock + 1)) } := by
  have hc : (Instr.checkKey false 10000 k (.int q i)).run P w = .ok () w := MapKept.run_checkKey hk (isKey_int q i) false 9999
  simp [Instr.mapUpdate, run_underlying ht, MapKept.run_getObj_map hb, hc, MapKept.run_findKey hk (findNow_new q i es.toList 0 hnew), MapKept.run_setObj_map _ hb, Result.andThen]

theorem wpList_insert_int {ops : Array Oper} {rest : List Oper} {o : Oper} {a : Act} {Q : Exit → Act → World → Prop}
    (hg : o.guard = none) (m x v : Operand) (t : TypeId) (hop : o.op = Op.insert t m x v) (k e : TypeId) (q : IntKind) (ht : P.underlying t = some (.map k e)) (hk : P.underlying k = some (.int q))
    (b clock : Nat) (es : Array MapEntry) (hm : a.eval m = .map (some b)) (hb : w.heap[b]? = some (.map es clock)) (i : Int) (hx : a.eval x = .int q i) (val : Value) (hv : a.eval v = val)
    (hnew : ∀ y ∈ es.toList, ∃ j, y.key = .int q j ∧ j ≠ i)
    (hK : ∀ w', w'.heap[b]? = some (.map (es.push { key := .int q i, val := val, born := clock }) (clock + 1)) → w.grownBy w' (some b) → wpList P ops Q rest (a.put o.dst undef) w') :
    wpList P ops Q (o :: rest) a w := by
  refine wpList_plain hg fun K' hK' => ?_
  unfold Oper.wp
  simp [execOp, hop, hm, hx, hv, run_insert_int w ht hk hb i val hnew, Result.andThen]
  refine hK' _ _ (hK _ ?_ ?_)
  · exact (MapKept.heap_set hb).1
  · exact ⟨rfl, rfl, rfl, by simp, fun j _ hj => (MapKept.heap_set hb).2 j (fun e => hj (by rw [e]))⟩

theorem run_look_hit {t k e : TypeId} {q : IntKind} (ht : P.underlying t = some (.map k e)) (hk : P.underlying k = some (.int q)) {b clock : Nat} {es : Array MapEntry} (hb : w.heap[b]? = some (.map es clock)) (i : Int) (m : Nat) (v : Value)
    (hf : Instr.findNow (.int q) (.int q i) es.toList 0 = some (some (m, v))) :
    (Instr.lookup t (.map (some b)) (.int q i) true).run P w = .ok (.tuple #[v, .bool true]) w := by
  have hc : ∀ em, (Instr.checkKey em 10000 k (.int q i)).run P w = .ok () w := fun em => MapKept.run_checkKey hk (isKey_int q i) em 9999
  simp [Instr.lookup, run_underlying ht, MapKept.run_getObj_map hb, hc, MapKept.run_findKey hk hf, Result.andThen]

theorem run_look_miss {t k e : TypeId} {q : IntKind} (ht : P.underlying t = some (.map k e)) (hk : P.underlying k = some (.int q)) {b clock : Nat} {es : Array MapEntry} (hb : w.heap[b]? = some (.map es clock)) (i : Int) (z : Value)
    (hz : (zeroValue e).run P w = .ok z w) (hnew : ∀ x ∈ es.toList, ∃ j, x.key = .int q j ∧ j ≠ i) :
    (Instr.lookup t (.map (some b)) (.int q i) true).run P w = .ok (.tuple #[z, .bool false]) w := by
  have hc : ∀ em, (Instr.checkKey em 10000 k (.int q i)).run P w = .ok () w := fun em => MapKept.run_checkKey hk (isKey_int q i) em 9999
  simp [Instr.lookup, run_underlying ht, MapKept.run_getObj_map hb, hc, MapKept.run_findKey hk (findNow_new q i es.toList 0 hnew), hz, Result.andThen]
end
end Go.Proofs.YtlkiigoblkfkpaaGreatDoor

/-
  CONTRACTS OF requirements, AND OF May.
-/

namespace Go.Proofs.YtlkiigoblkfkpaaGreatDoor
open Go.RowKit
open Utf Term

theorem alone_any (K : Nat) (w : World) : Calls Tryz.prog 88 #[.func (.func K) #[] #[]] w fun e w' =>
    e = .returned (.func (.func 89) #[] #[.pointer (some ⟨w.heap.size, 0, none⟩)]) ∧ w' = w.alloc (.cells #[.func (.func K) #[] #[]] 94) := by
  have hmf : ∀ (fn : Fn) (first cap : Array Value) (w : World), (Instr.makeFunc fn first cap).run Tryz.prog w = .ok (.func fn first cap) w := fun _ _ _ _ => rfl
  go_enter Tryz.func88, Tryz.ntmps88
  go_wp2
  go_ret
  exact ⟨rfl, rfl⟩
theorem beside_any (K : Nat) (w : World) : Calls Tryz.prog 90 #[.func (.func K) #[] #[]] w fun e w' =>
    e = .returned (.func (.func 91) #[] #[.pointer (some ⟨w.heap.size, 0, none⟩)]) ∧ w' = w.alloc (.cells #[.func (.func K) #[] #[]] 94) := by
  have hmf : ∀ (fn : Fn) (first cap : Array Value) (w : World), (Instr.makeFunc fn first cap).run Tryz.prog w = .ok (.func fn first cap) w := fun _ _ _ _ => rfl
  go_enter Tryz.func90, Tryz.ntmps90
  go_wp2
  go_ret
  exact ⟨rfl, rfl⟩

/-- A closure's captured function. -/
def Holds (W : World) (c K : Nat) : Prop := W.heap[c]? = some (.cells #[.func (.func K) #[] #[]] 94 (0, 0))
abbrev cloA (c : Nat) : Value := .func (.func 89) #[] #[.pointer (some ⟨c, 0, none⟩)]
abbrev cloB (c : Nat) : Value := .func (.func 91) #[] #[.pointer (some ⟨c, 0, none⟩)]
abbrev entriesOf (c1 c2 c3 c4 c5 : Nat) : Array MapEntry := #[⟨.int .i64 1, cloA c1, 0⟩, ⟨.int .i64 2, cloA c2, 1⟩, ⟨.int .i64 3, cloA c3, 2⟩, ⟨.int .i64 4, cloB c4, 3⟩, ⟨.int .i64 5, cloB c5, 4⟩]
/-- What requirements leaves: a map of five closures. -/
def Reqs (w : World) (e : Ending) (W : World) : Prop :=
  ∃ b c1 c2 c3 c4 c5, e = .returned (.map (some b)) ∧ W.heap[b]? = some (.map (entriesOf c1 c2 c3 c4 c5) 5) ∧ (Holds W c1 93 ∧ Holds W c2 94 ∧ Holds W c3 92 ∧ Holds W c4 95 ∧ Holds W c5 96) ∧ Below w.heap.size w W

theorem holds_new (w : World) (K : Nat) : Holds (w.alloc (.cells #[.func (.func K) #[] #[]] 94)) w.heap.size K := World.alloc_heap_new w _
theorem Holds.grown {W W' : World} {c K : Nat} {row : Option Nat} (h : Holds W c K) (hg : W.grownBy W' row) (hr : row ≠ some c) : Holds W' c K :=
  (hg.block c (Array.getElem?_eq_some_iff.1 h).1 (fun e => hr e.symm)).trans h
theorem Holds.alloc {W : World} {c K : Nat} (h : Holds W c K) (o : Obj) : Holds (W.alloc o) c K := (Below.heap_alloc W o c (Array.getElem?_eq_some_iff.1 h).1).trans h
theorem Holds.below {W W' : World} {B c K : Nat} (h : Holds W c K) (hB : Below B W W') (hc : c < B) : Holds W' c K := (hB.block c hc).trans h

set_option maxRecDepth 100000 in
set_option maxHeartbeats 2000000 in
theorem requirements_any (w : World) : Calls Tryz.prog 74 #[] w (Reqs w) := by
  have hmm := @run_makeMap_plain Tryz.prog
  go_enter Tryz.func74, Tryz.ntmps74
  go_wp2_with fail
  refine (alone_any _ _).mono ?_
  rintro e w0 ⟨rfl, rfl⟩
  have h0 : ((w.alloc (.map #[] 0)).alloc (.cells #[.func (.func 93) #[] #[]] 94)).heap[w.heap.size]? = some (.map #[] 0) := (Below.heap_alloc _ _ _ (by simp)).trans (World.alloc_heap_new w _)
  have g0 := holds_new (w.alloc (.map #[] 0)) 93
  have b0 : Below w.heap.size w ((w.alloc (.map #[] 0)).alloc (.cells #[.func (.func 93) #[] #[]] 94)) := ((Below.refl _ w).alloc (Nat.le_refl _) _).alloc (by simp) _
  have n0 : w.heap.size + 2 ≤ ((w.alloc (.map #[] 0)).alloc (.cells #[.func (.func 93) #[] #[]] 94)).heap.size := by simp
  rw [World.size_alloc] at g0
  have H0 := Lib.hid h0
  have G0 := Lib.hid g0
  clear h0 g0
  go_wp2_with (refine wpList_insert_int _ rfl (.tmp 3) (.const (.int .i64 1)) (.tmp 5) 114 rfl 33 95 .i64 Tryz.underlying114 Tryz.underlying33 w.heap.size 0 #[] rfl H0.out 1 rfl _ rfl (by simp) ?_; intro w1 h1 k1)
  have G1 := Lib.hid (G0.out.grown k1 (by simp))
  have H1 := Lib.hid h1
  have b1 : Below w.heap.size w w1 := b0.grown k1 b0.size (fun k e => by cases e; exact Nat.le_refl _)
  have n1 : w.heap.size + 2 ≤ w1.heap.size := Nat.le_trans n0 k1.size
  clear h1 k1 H0 G0 b0 n0
  refine (alone_any _ _).mono ?_
  rintro e w0 ⟨rfl, rfl⟩
  have m2 := Lib.hid ((Below.heap_alloc w1 (.cells #[.func (.func 94) #[] #[]] 94) w.heap.size (by omega)).trans H1.out)
  have A1 := Lib.hid (G1.out.alloc (.cells #[.func (.func 94) #[] #[]] 94))
  have A2 := Lib.hid (holds_new w1 94)
  clear H1 G1
  go_wp2_with (refine wpList_insert_int _ rfl (.tmp 3) (.const (.int .i64 2)) (.tmp 7) 114 rfl 33 95 .i64 Tryz.underlying114 Tryz.underlying33 w.heap.size 1 #[⟨.int .i64 1, cloA (w.heap.size + 1), 0⟩] rfl m2.out 2 rfl _ rfl (by simp) ?_; intro w2 h2 k2)
  have G1 := Lib.hid (A1.out.grown k2 (by simp <;> omega))
  have G2 := Lib.hid (A2.out.grown k2 (by simp <;> omega))
  have H2 := Lib.hid h2
  have b2 : Below w.heap.size w w2 := (b1.alloc b1.size (.cells #[.func (.func 94) #[] #[]] 94)).grown k2 (by simp <;> omega) (fun k e => by cases e; exact Nat.le_refl _)
  have n2 : w.heap.size + 2 ≤ w2.heap.size := by have := k2.size; simp at this; omega
  clear h2 k2 m2 A1 A2 b1
  refine (alone_any _ _).mono ?_
  rintro e w0 ⟨rfl, rfl⟩
  have m3 := Lib.hid ((Below.heap_alloc w2 (.cells #[.func (.func 92) #[] #[]] 94) w.heap.size (by omega)).trans H2.out)
  have A1 := Lib.hid (G1.out.alloc (.cells #[.func (.func 92) #[] #[]] 94))
  have A2 := Lib.hid (G2.out.alloc (.cells #[.func (.func 92) #[] #[]] 94))
  have A3 := Lib.hid (holds_new w2 92)
  clear H2 G1 G2
  go_wp2_with (refine wpList_insert_int _ rfl (.tmp 3) (.const (.int .i64 3)) (.tmp 9) 114 rfl 33 95 .i64 Tryz.underlying114 Tryz.underlying33 w.heap.size 2 #[⟨.int .i64 1, cloA (w.heap.size + 1), 0⟩, ⟨.int .i64 2, cloA w1.heap.size, 1⟩] rfl m3.out 3 rfl _ rfl (by simp) ?_; intro w3 h3 k3)
  have G1 := Lib.hid (A1.out.grown k3 (by simp <;> omega))
  have G2 := Lib.hid (A2.out.grown k3 (by simp <;> omega))
  have G3 := Lib.hid (A3.out.grown k3 (by simp <;> omega))
  have H3 := Lib.hid h3
  have b3 : Below w.heap.size w w3 := (b2.alloc b2.size (.cells #[.func (.func 92) #[] #[]] 94)).grown k3 (by simp <;> omega) (fun k e => by cases e; exact Nat.le_refl _)
  have n3 : w.heap.size + 2 ≤ w3.heap.size := by have := k3.size; simp at this; omega
  clear h3 k3 m3 A1 A2 A3 b2
  refine (beside_any _ _).mono ?_
  rintro e w0 ⟨rfl, rfl⟩
  have m4 := Lib.hid ((Below.heap_alloc w3 (.cells #[.func (.func 95) #[] #[]] 94) w.heap.size (by omega)).trans H3.out)
  have A1 := Lib.hid (G1.out.alloc (.cells #[.func (.func 95) #[] #[]] 94))
  have A2 := Lib.hid (G2.out.alloc (.cells #[.func (.func 95) #[] #[]] 94))
  have A3 := Lib.hid (G3.out.alloc (.cells #[.func (.func 95) #[] #[]] 94))
  have A4 := Lib.hid (holds_new w3 95)
  clear H3 G1 G2 G3
  go_wp2_with (refine wpList_insert_int _ rfl (.tmp 3) (.const (.int .i64 4)) (.tmp 11) 114 rfl 33 95 .i64 Tryz.underlying114 Tryz.underlying33 w.heap.size 3 #[⟨.int .i64 1, cloA (w.heap.size + 1), 0⟩, ⟨.int .i64 2, cloA w1.heap.size, 1⟩, ⟨.int .i64 3, cloA w2.heap.size, 2⟩] rfl m4.out 4 rfl _ rfl (by simp) ?_; intro w4 h4 k4)
  have G1 := Lib.hid (A1.out.grown k4 (by simp <;> omega))
  have G2 := Lib.hid (A2.out.grown k4 (by simp <;> omega))
  have G3 := Lib.hid (A3.out.grown k4 (by simp <;> omega))
  have G4 := Lib.hid (A4.out.grown k4 (by simp <;> omega))
  have H4 := Lib.hid h4
  have b4 : Below w.heap.size w w4 := (b3.alloc b3.size (.cells #[.func (.func 95) #[] #[]] 94)).grown k4 (by simp <;> omega) (fun k e => by cases e; exact Nat.le_refl _)
  have n4 : w.heap.size + 2 ≤ w4.heap.size := by have := k4.size; simp at this; omega
  clear h4 k4 m4 A1 A2 A3 A4 b3
  refine (beside_any _ _).mono ?_
  rintro e w0 ⟨rfl, rfl⟩
  have m5 := Lib.hid ((Below.heap_alloc w4 (.cells #[.func (.func 96) #[] #[]] 94) w.heap.size (by omega)).trans H4.out)
  have A1 := Lib.hid (G1.out.alloc (.cells #[.func (.func 96) #[] #[]] 94))
  have A2 := Lib.hid (G2.out.alloc (.cells #[.func (.func 96) #[] #[]] 94))
  have A3 := Lib.hid (G3.out.alloc (.cells #[.func (.func 96) #[] #[]] 94))
  have A4 := Lib.hid (G4.out.alloc (.cells #[.func (.func 96) #[] #[]] 94))
  have A5 := Lib.hid (holds_new w4 96)
  clear H4 G1 G2 G3 G4
  go_wp2_with (refine wpList_insert_int _ rfl (.tmp 3) (.const (.int .i64 5)) (.tmp 13) 114 rfl 33 95 .i64 Tryz.underlying114 Tryz.underlying33 w.heap.size 4 #[⟨.int .i64 1, cloA (w.heap.size + 1), 0⟩, ⟨.int .i64 2, cloA w1.heap.size, 1⟩, ⟨.int .i64 3, cloA w2.heap.size, 2⟩, ⟨.int .i64 4, cloB w3.heap.size, 3⟩] rfl m5.out 5 rfl _ rfl (by simp) ?_; intro w5 h5 k5)
  have G1 := Lib.hid (A1.out.grown k5 (by simp <;> omega))
  have G2 := Lib.hid (A2.out.grown k5 (by simp <;> omega))
  have G3 := Lib.hid (A3.out.grown k5 (by simp <;> omega))
  have G4 := Lib.hid (A4.out.grown k5 (by simp <;> omega))
  have G5 := Lib.hid (A5.out.grown k5 (by simp <;> omega))
  have H5 := Lib.hid h5
  have b5 : Below w.heap.size w w5 := (b4.alloc b4.size (.cells #[.func (.func 96) #[] #[]] 94)).grown k5 (by simp <;> omega) (fun k e => by cases e; exact Nat.le_refl _)
  have n5 : w.heap.size + 2 ≤ w5.heap.size := by have := k5.size; simp at this; omega
  clear h5 k5 m5 A1 A2 A3 A4 A5 b4
  go_ret
  exact ⟨w.heap.size, w.heap.size + 1, _, _, _, _, rfl, H5.out, ⟨G1.out, G2.out, G3.out, G4.out, G5.out⟩, b5⟩

/-- Nothing beside the text? -/
def noExtra (x : ByteArray) : Bool := decide (x.size = 0)
/-- A term's value. -/
abbrev termV (k : Int) (t x : ByteArray) : Value := .agg #[.int .i64 k, .string t, .string x]
/-- In whatever world behind this one the function answers V of this text. -/
def Answers (w : World) (K : Nat) (s : ByteArray) (V : Bool) : Prop :=
  (∀ args w, (callFunc K args).run Tryz.prog w = .ok (.enter K args) w) ∧ ∀ W, Below w.heap.size w W → Calls Tryz.prog K #[.string s] W fun e W' => e = .returned (.bool V) ∧ Below W.heap.size W W'

set_option maxRecDepth 100000 in
set_option maxHeartbeats 1000000 in
theorem aloneClo_any (k : Int) (t x : ByteArray) (c K : Nat) (V : Bool) (w : World) (hc : Holds w c K) (hA : Answers w K t V) :
    Calls Tryz.prog 89 #[termV k t x, .pointer (some ⟨c, 0, none⟩)] w fun e w' => e = .returned (.bool (noExtra x && V)) ∧ Below w.heap.size w w' := by
  have hB0 : Below w.heap.size w (w.alloc (.cells #[.int .i64 k, .string t, .string x] 35)) := (Below.refl _ w).alloc (Nat.le_refl _) _
  have hc1 := cell_of_one (hc.alloc (.cells #[.int .i64 k, .string t, .string x] 35))
  have HC := Lib.hid (hA.2 _ hB0)
  have e := hA.1
  clear hA hc
  by_cases h0 : 0 < x.size
  · have hne : x.toList.isEmpty = false := nonempty h0
    go_enter Tryz.func89, Tryz.ntmps89
    go_wp2
    go_ret
    exact ⟨ret_bool (by unfold noExtra; rw [show decide (x.size = 0) = false by rw [decide_eq_false_iff_not]; omega]; rfl), hB0⟩
  · obtain rfl := empty_of x (by omega)
    go_enter Tryz.func89, Tryz.ntmps89
    go_wp2_with (go_at_fn K; refine HC.out.mono ?_; rintro e w2 ⟨rfl, hB2⟩)
    go_ret
    exact ⟨ret_bool (by simp [noExtra]), hB0.trans (hB2.mono hB0.size)⟩

set_option maxRecDepth 100000 in
set_option maxHeartbeats 1000000 in
theorem besideClo_any (k : Int) (t x : ByteArray) (c K : Nat) (V : Bool) (w : World) (ht : t.size ≤ 9223372036854775807) (hc : Holds w c K) (hA : Answers w K x V) :
    Calls Tryz.prog 91 #[termV k t x, .pointer (some ⟨c, 0, none⟩)] w fun e w' => e = .returned (.bool (V && isValueB (bs t))) ∧ Below w.heap.size w w' := by
  have hB0 : Below w.heap.size w (w.alloc (.cells #[.int .i64 k, .string t, .string x] 35)) := (Below.refl _ w).alloc (Nat.le_refl _) _
  have hc1 := cell_of_one (hc.alloc (.cells #[.int .i64 k, .string t, .string x] 35))
  have HC := Lib.hid (hA.2 _ hB0)
  have e := hA.1
  clear hA hc
  cases V with
  | false =>
    go_enter Tryz.func91, Tryz.ntmps91
    go_wp2_with (go_at_fn K; refine HC.out.mono ?_; rintro e w2 ⟨rfl, hB2⟩)
    go_ret
    exact ⟨ret_bool (by simp), hB0.trans (hB2.mono hB0.size)⟩
  | true =>
    have hcell : ∀ w2, Below (w.alloc (.cells #[.int .i64 k, .string t, .string x] 35)).heap.size (w.alloc (.cells #[.int .i64 k, .string t, .string x] 35)) w2 → w2.cell? ⟨w.heap.size, 1, none⟩ = some (.string t) := by
      intro w2 h
      rw [h.cell (p := ⟨w.heap.size, 1, none⟩) (by simp), World.cell?_alloc_at _ _ _ _ rfl]
      rfl
    go_enter Tryz.func91, Tryz.ntmps91
    go_wp2_with (go_at_fn K; refine HC.out.mono ?_; rintro e w2 ⟨rfl, hB2⟩; have hcc := hcell _ hB2)
    refine (isValue_any t ht _).mono ?_
    rintro e w3 ⟨rfl, hB3⟩
    go_wp2
    go_ret
    exact ⟨ret_bool (by simp), hB0.trans ((hB2.mono hB0.size).trans (hB3.mono (Nat.le_trans hB0.size hB2.size)))⟩
end Go.Proofs.YtlkiigoblkfkpaaGreatDoor

/-
  THE CONTRACT OF May.
-/

namespace Go.Proofs.YtlkiigoblkfkpaaGreatDoor
open Go.RowKit
open Utf Term
set_option linter.unusedVariables false

theorem zero_func (w : World) : (zeroValue 95).run Tryz.prog w = .ok .nilFunc w := by kernel_rfl

theorem look_1 {w : World} {b c1 c2 c3 c4 c5 : Nat} (h : w.heap[b]? = some (.map (entriesOf c1 c2 c3 c4 c5) 5)) : (Instr.lookup 114 (.map (some b)) (.int .i64 1) true).run Tryz.prog w = .ok (.tuple #[cloA c1, .bool true]) w :=
  run_look_hit w Tryz.underlying114 Tryz.underlying33 h 1 0 _ rfl
theorem look_2 {w : World} {b c1 c2 c3 c4 c5 : Nat} (h : w.heap[b]? = some (.map (entriesOf c1 c2 c3 c4 c5) 5)) : (Instr.lookup 114 (.map (some b)) (.int .i64 2) true).run Tryz.prog w = .ok (.tuple #[cloA c2, .bool true]) w :=
  run_look_hit w Tryz.underlying114 Tryz.underlying33 h 2 1 _ rfl
theorem look_3 {w : World} {b c1 c2 c3 c4 c5 : Nat} (h : w.heap[b]? = some (.map (entriesOf c1 c2 c3 c4 c5) 5)) : (Instr.lookup 114 (.map (some b)) (.int .i64 3) true).run Tryz.prog w = .ok (.tuple #[cloA c3, .bool true]) w :=
  run_look_hit w Tryz.underlying114 Tryz.underlying33 h 3 2 _ rfl
theorem look_4 {w : World} {b c1 c2 c3 c4 c5 : Nat} (h : w.heap[b]? = some (.map (entriesOf c1 c2 c3 c4 c5) 5)) : (Instr.lookup 114 (.map (some b)) (.int .i64 4) true).run Tryz.prog w = .ok (.tuple #[cloB c4, .bool true]) w :=
  run_look_hit w Tryz.underlying114 Tryz.underlying33 h 4 3 _ rfl
theorem look_5 {w : World} {b c1 c2 c3 c4 c5 : Nat} (h : w.heap[b]? = some (.map (entriesOf c1 c2 c3 c4 c5) 5)) : (Instr.lookup 114 (.map (some b)) (.int .i64 5) true).run Tryz.prog w = .ok (.tuple #[cloB c5, .bool true]) w :=
  run_look_hit w Tryz.underlying114 Tryz.underlying33 h 5 4 _ rfl
theorem look_no {w : World} {b c1 c2 c3 c4 c5 : Nat} (h : w.heap[b]? = some (.map (entriesOf c1 c2 c3 c4 c5) 5)) (k : Int) (hk : k < 1 ∨ 5 < k) : (Instr.lookup 114 (.map (some b)) (.int .i64 k) true).run Tryz.prog w = .ok (.tuple #[.nilFunc, .bool false]) w :=
  run_look_miss w Tryz.underlying114 Tryz.underlying33 h k _ (zero_func w) (by
    intro y hy
    simp at hy
    rcases hy with rfl | rfl | rfl | rfl | rfl <;> exact ⟨_, rfl, by omega⟩)

theorem box_cells {w w2 : World} {k : Int} {t x : ByteArray} (hB : Below (w.alloc (.cells #[.int .i64 k, .string t, .string x] 35)).drew.heap.size (w.alloc (.cells #[.int .i64 k, .string t, .string x] 35)).drew w2) :
    w2.cell? ⟨w.heap.size, 0, none⟩ = some (.int .i64 k) ∧ w2.cell? ⟨w.heap.size, 1, none⟩ = some (.string t) ∧ w2.cell? ⟨w.heap.size, 2, none⟩ = some (.string x) := by
  have h : ∀ o v, (w.alloc (.cells #[.int .i64 k, .string t, .string x] 35)).cell? ⟨w.heap.size, o, none⟩ = v → w2.cell? ⟨w.heap.size, o, none⟩ = v := fun o v e =>
    (hB.cell (p := ⟨w.heap.size, o, none⟩) (by show w.heap.size < (w.alloc _).heap.size; simp)).trans e
  refine ⟨h 0 _ ?_, h 1 _ ?_, h 2 _ ?_⟩
  all_goals
    rw [World.cell?_alloc_at _ _ _ _ rfl]
    rfl

theorem may_below {w w2 w3 : World} {o : Obj} (hB : Below (w.alloc o).drew.heap.size (w.alloc o).drew w2) (hB3 : Below w2.heap.size w2 w3) : Below w.heap.size w w3 := by
  have h1 : Below w.heap.size w (w.alloc o).drew := ((Below.refl _ w).alloc (Nat.le_refl _) _).drew
  have h2 := h1.trans (hB.mono h1.size)
  exact h2.trans (hB3.mono h2.size)

set_option maxRecDepth 100000 in
set_option maxHeartbeats 2000000 in
theorem may_1 (t x : ByteArray) (ht : t.size ≤ 9223372036854775807) (hx : x.size ≤ 9223372036854775807) (m : Int) (w : World) (hm : w.cell? ⟨0, 0, none⟩ = some (.int .i64 m)) :
    Calls Tryz.prog 58 #[termV 1 t x] w fun e w' => e = .returned (.bool (noExtra x && isIRIB (bs t))) ∧ Below w.heap.size w w' := by
  have hBb : ∀ o, Below w.heap.size w (w.alloc o) := fun o => (Below.refl _ w).alloc (Nat.le_refl _) _
  go_enter Tryz.func58, Tryz.ntmps58
  go_wp2
  go_region_with (go_at_call 74; refine (requirements_any _).mono ?_; rintro e w2 ⟨b, c1, c2, c3, c4, c5, rfl, hmap, ⟨g1, g2, g3, g4, g5⟩, hB⟩; have hl := look_1 hmap; obtain ⟨hc0, hc1, hc2⟩ := box_cells hB)
  all_goals
    have hA : Answers w2 93 t (isIRIB (bs t)) := ⟨enters_of Tryz.func93 (by kernel_rfl) rfl, fun W hW => isIRI_any t ht W⟩
    go_wp2_with (go_at_call 89; refine (aloneClo_any 1 t x c1 93 _ _ g1 hA).mono ?_; rintro e w3 ⟨rfl, hB3⟩)
    go_ret
    exact ⟨rfl, may_below hB hB3⟩
set_option maxRecDepth 100000 in
set_option maxHeartbeats 2000000 in
theorem may_2 (t x : ByteArray) (ht : t.size ≤ 9223372036854775807) (hx : x.size ≤ 9223372036854775807) (m : Int) (w : World) (hm : w.cell? ⟨0, 0, none⟩ = some (.int .i64 m)) :
    Calls Tryz.prog 58 #[termV 2 t x] w fun e w' => e = .returned (.bool (noExtra x && isBlankB (bs t))) ∧ Below w.heap.size w w' := by
  have hBb : ∀ o, Below w.heap.size w (w.alloc o) := fun o => (Below.refl _ w).alloc (Nat.le_refl _) _
  go_enter Tryz.func58, Tryz.ntmps58
  go_wp2
  go_region_with (go_at_call 74; refine (requirements_any _).mono ?_; rintro e w2 ⟨b, c1, c2, c3, c4, c5, rfl, hmap, ⟨g1, g2, g3, g4, g5⟩, hB⟩; have hl := look_2 hmap; obtain ⟨hc0, hc1, hc2⟩ := box_cells hB)
  all_goals
    have hA : Answers w2 94 t (isBlankB (bs t)) := ⟨enters_of Tryz.func94 (by kernel_rfl) rfl, fun W hW => isBlank_any t ht W⟩
    go_wp2_with (go_at_call 89; refine (aloneClo_any 2 t x c2 94 _ _ g2 hA).mono ?_; rintro e w3 ⟨rfl, hB3⟩)
    go_ret
    exact ⟨rfl, may_below hB hB3⟩
set_option maxRecDepth 100000 in
set_option maxHeartbeats 2000000 in
theorem may_3 (t x : ByteArray) (ht : t.size ≤ 9223372036854775807) (hx : x.size ≤ 9223372036854775807) (m : Int) (w : World) (hm : w.cell? ⟨0, 0, none⟩ = some (.int .i64 m)) :
    Calls Tryz.prog 58 #[termV 3 t x] w fun e w' => e = .returned (.bool (noExtra x && isValueB (bs t))) ∧ Below w.heap.size w w' := by
  have hBb : ∀ o, Below w.heap.size w (w.alloc o) := fun o => (Below.refl _ w).alloc (Nat.le_refl _) _
  go_enter Tryz.func58, Tryz.ntmps58
  go_wp2
  go_region_with (go_at_call 74; refine (requirements_any _).mono ?_; rintro e w2 ⟨b, c1, c2, c3, c4, c5, rfl, hmap, ⟨g1, g2, g3, g4, g5⟩, hB⟩; have hl := look_3 hmap; obtain ⟨hc0, hc1, hc2⟩ := box_cells hB)
  all_goals
    have hA : Answers w2 92 t (isValueB (bs t)) := ⟨enters_of Tryz.func92 (by kernel_rfl) rfl, fun W hW => isValue_any t ht W⟩
    go_wp2_with (go_at_call 89; refine (aloneClo_any 3 t x c3 92 _ _ g3 hA).mono ?_; rintro e w3 ⟨rfl, hB3⟩)
    go_ret
    exact ⟨rfl, may_below hB hB3⟩
set_option maxRecDepth 100000 in
set_option maxHeartbeats 2000000 in
theorem may_4 (t x : ByteArray) (ht : t.size ≤ 9223372036854775807) (hx : x.size ≤ 9223372036854775807) (m : Int) (w : World) (hm : w.cell? ⟨0, 0, none⟩ = some (.int .i64 m)) :
    Calls Tryz.prog 58 #[termV 4 t x] w fun e w' => e = .returned (.bool (isTagS x && isValueB (bs t))) ∧ Below w.heap.size w w' := by
  have hBb : ∀ o, Below w.heap.size w (w.alloc o) := fun o => (Below.refl _ w).alloc (Nat.le_refl _) _
  have hz0 : 0 < w.heap.size := World.block_lt_of_cell? _ _ hm
  go_enter Tryz.func58, Tryz.ntmps58
  go_wp2
  go_region_with (go_at_call 74; refine (requirements_any _).mono ?_; rintro e w2 ⟨b, c1, c2, c3, c4, c5, rfl, hmap, ⟨g1, g2, g3, g4, g5⟩, hB⟩; have hl := look_4 hmap; obtain ⟨hc0, hc1, hc2⟩ := box_cells hB)
  all_goals
    have hz2 : 0 < w2.heap.size := by have := hB.size; simp at this; omega
    have hm2 : w2.cell? ⟨0, 0, none⟩ = some (.int .i64 m) := (hB.cell (p := ⟨0, 0, none⟩) (by simp <;> omega)).trans ((hBb (.cells #[.int .i64 4, .string t, .string x] 35)).cell (p := ⟨0, 0, none⟩) hz0 |>.trans hm)
    have hA : Answers w2 95 x (isTagS x) := ⟨enters_of Tryz.func95 (by kernel_rfl) rfl, fun W hW => isTag_any x hx m W ((hW.cell (p := ⟨0, 0, none⟩) hz2).trans hm2)⟩
    go_wp2_with (go_at_call 91; refine (besideClo_any 4 t x c4 95 _ _ ht g4 hA).mono ?_; rintro e w3 ⟨rfl, hB3⟩)
    go_ret
    exact ⟨rfl, may_below hB hB3⟩
set_option maxRecDepth 100000 in
set_option maxHeartbeats 2000000 in
theorem may_5 (t x : ByteArray) (ht : t.size ≤ 9223372036854775807) (hx : x.size ≤ 9223372036854775807) (m : Int) (w : World) (hm : w.cell? ⟨0, 0, none⟩ = some (.int .i64 m)) :
    Calls Tryz.prog 58 #[termV 5 t x] w fun e w' => e = .returned (.bool (isTypeB (bs x) && isValueB (bs t))) ∧ Below w.heap.size w w' := by
  have hBb : ∀ o, Below w.heap.size w (w.alloc o) := fun o => (Below.refl _ w).alloc (Nat.le_refl _) _
  go_enter Tryz.func58, Tryz.ntmps58
  go_wp2
  go_region_with (go_at_call 74; refine (requirements_any _).mono ?_; rintro e w2 ⟨b, c1, c2, c3, c4, c5, rfl, hmap, ⟨g1, g2, g3, g4, g5⟩, hB⟩; have hl := look_5 hmap; obtain ⟨hc0, hc1, hc2⟩ := box_cells hB)
  all_goals
    have hA : Answers w2 96 x (isTypeB (bs x)) := ⟨enters_of Tryz.func96 (by kernel_rfl) rfl, fun W hW => isType_any x hx W⟩
    go_wp2_with (go_at_call 91; refine (besideClo_any 5 t x c5 96 _ _ ht g5 hA).mono ?_; rintro e w3 ⟨rfl, hB3⟩)
    go_ret
    exact ⟨rfl, may_below hB hB3⟩
set_option maxRecDepth 100000 in
set_option maxHeartbeats 2000000 in
theorem may_other (k : Int) (hk : k < 1 ∨ 5 < k) (t x : ByteArray) (w : World) :
    Calls Tryz.prog 58 #[termV k t x] w fun e w' => e = .returned (.bool false) ∧ Below w.heap.size w w' := by
  have HK := Lib.hid hk
  clear hk
  go_enter Tryz.func58, Tryz.ntmps58
  go_wp2
  go_region_with (go_at_call 74; refine (requirements_any _).mono ?_; rintro e w2 ⟨b, c1, c2, c3, c4, c5, rfl, hmap, ⟨g1, g2, g3, g4, g5⟩, hB⟩; have hl := look_no hmap k HK.out; obtain ⟨hc0, hc1, hc2⟩ := box_cells hB)
  all_goals
    go_wp2
    go_ret
    exact ⟨rfl, may_below hB (Below.refl _ _)⟩

namespace Term
/-- Is a term valid? -/
def mayS (k : Int) (t x : ByteArray) : Bool :=
  if k = 1 then noExtra x && isIRIB (bs t) else if k = 2 then noExtra x && isBlankB (bs t) else if k = 3 then noExtra x && isValueB (bs t)
  else if k = 4 then isTagS x && isValueB (bs t) else if k = 5 then isTypeB (bs x) && isValueB (bs t) else false
end Term

theorem may_vast (k : Int) (t x : ByteArray) (ht : t.size ≤ 9223372036854775807) (hx : x.size ≤ 9223372036854775807) (m : Int) (w : World) (hm : w.cell? ⟨0, 0, none⟩ = some (.int .i64 m)) :
    Calls Tryz.prog 58 #[termV k t x] w fun e w' => e = .returned (.bool (mayS k t x)) ∧ Below w.heap.size w w' := by
  unfold mayS
  by_cases h1 : k = 1
  · subst h1; exact may_1 t x ht hx m w hm
  · rw [if_neg h1]
    by_cases h2 : k = 2
    · subst h2; exact may_2 t x ht hx m w hm
    · rw [if_neg h2]
      by_cases h3 : k = 3
      · subst h3; exact may_3 t x ht hx m w hm
      · rw [if_neg h3]
        by_cases h4 : k = 4
        · subst h4; exact may_4 t x ht hx m w hm
        · rw [if_neg h4]
          by_cases h5 : k = 5
          · subst h5; exact may_5 t x ht hx m w hm
          · rw [if_neg h5]
            exact may_other k (by omega) t x w
end Go.Proofs.YtlkiigoblkfkpaaGreatDoor

/-
  May OVER A TERM's DATA.
-/

namespace Go.Proofs.YtlkiigoblkfkpaaGreatDoor
open Go.RowKit
open Utf Term
set_option linter.unusedVariables false

def mayD (a : TermD) : Bool := mayS a.1 a.2.1 a.2.2
end Go.Proofs.YtlkiigoblkfkpaaGreatDoor

