/-
  WHAT THE PROOF STANDS ON, a part of it: Card, ErrLaid, MapInt, OrderMath, Shelf, SortMath, UtfMath, UtfEncs, UtfLeaf, UtfGet, UtfMark, UtfOwn, UtfAdd, UtfBytes, TermD, Compare, Eq, SortRow, SortOwn, TermArg, UtfIter, UtfRow, UtfValid.
-/
import Derived.Test.YtachijkjcbajmaaGreatDoorTie
import Derived.Test.YtachijkjcbajmaaGreatDoorCards
import Derived.ProofKit
import Derived.OpenShut
import Derived.ShutString
import Derived.LaidMore
import Derived.Lay
import Derived.SevenTiedAt
import Derived.Stop.Joined
import Derived.HandedShaped
import Derived.Shelf.Vars
import Derived.Below
import Derived.Shelf.Pu.ToError
import Derived.Test.YtachijkjcbajmaaGreatDoorProg
import Derived.MapKept
import Derived.WideMake
import Derived.OwnWalk
import Derived.Maps.Own
import Derived.Lib.Bytealg
import GoSem.Op.String
import Derived.Shelf.Strings.Builder1
import Derived.Shelf.Small.Utf8
import Derived.Shelf.Small.Strs
import Derived.Shelf.Strings.BuilderF
import Derived.Shelf.Strings.BuilderK
import Derived.Shelf.Strconv.Itoa0
import Derived.Shelf.Strings.Search1
import Derived.Shelf.Strings.Search2
import Derived.Shelf.Strings.Search3
import Derived.Shelf.Strings.Cut
import Derived.Shelf.Strings.Count
import Derived.Shelf.LaysM
import Derived.Shelf.Strings.Shaped
import Derived.Shelf.Strings.Split
import Derived.Shelf.Strings.SplitShaped
import Derived.Shelf.Strings.Runes
import Derived.Shelf.Unicode.DecodeSlow
import GoSem.Core.Value
import Derived.WalkKit
import Derived.BigQuiet
import Derived.BigGuardPart
import Derived.Deep.QuietTactic
import Derived.Lib.Hide
import Derived.Deep.LoopGhost
import Derived.Deep.RegionWith
import Derived.Lib.Strings
import Derived.Deep.RegionHeld3
import Derived.ChangeKeysEq
import Derived.Laws.OwnMore
import Derived.Deep.Draws
import Derived.Lib.SliceRun
import Derived.Lib.SlicesCompact
import Derived.Lib.LazyBuf
import Derived.RangeFuncNested
import Derived.RangeFuncBound
import Derived.RangeFuncCalls
import Derived.RangeFuncLeaves
import Derived.Shelf.Abstract
import Derived.Shelf.RegionOpen
import Derived.OwnWalkIn
import Derived.TacticsInMore
import Derived.LoopNIn
import Derived.LoopIn
import Derived.RangeFuncBox
/-
  WHAT THE FIVE CARDS SHARE: the wrap that keeps the world's shape and what the listed variables hold; the library's variable holds an integer; the witness's world.
-/

namespace Go.Proofs.YtachijkjcbajmaaGreatDoor
open Go.ChangeShapes Go.WideShapes Go.ChangeAt Go.RowKit

theorem own : ownKnob Tryz.prog.godebug = none := by kernel_rfl

/-- In a world that fits the library's own variable holds some integer. -/
theorem maxLen_cell {W : World} (h : W.ShapedOpen Tryz.prog) : ∃ m, W.cell? ⟨1, 0, none⟩ = some (.int .i64 m) :=
  cell_of_shapedOpen_int (zero := #[.int .i64 0]) (t := 3) h (of_decide_eq_true (by kernel_rfl)) (by kernel_rfl) rfl (by kernel_rfl) (by kernel_rfl) Tryz.underlying3

set_option maxRecDepth 100000 in
/-- From the contract, given the world's shape, to the form's word. -/
theorem lift_shaped {H : Type} {enc : TypeId × Value → H} {os : Os} {f : FuncId} {fn : Func} {s : ChangeSpec} {X : World → Prop}
    (started : os.Started) (noInit : Tryz.checked.prog.inits.idxOf? f = none) (hfn : Tryz.checked.prog.funcs[f]? = some fn)
    (witness : ∃ (w : World) (tape : Tape) (i : Input), w.os = os ∧ (w.forCall tape i).Shaped Tryz.checked.prog ∧ i.vars = [] ∧ Input.okWide Tryz.checked.prog (w.forCall tape i) .any w.heap.size f i ∧
      ((s.pre enc Tryz.checked.prog fn [] false (w.forCall tape i).memory i.args ∧ X (w.forCall tape i).memory) ∧ sizedMet enc Tryz.checked.prog fn (OpenSpec.ofChange s) false (w.forCall tape i).memory i.args) ∧ ({} : Assume).holds Tryz.checked.prog (lone (Frame.enter Tryz.checked.prog f i.args .normal) [] (w.forCall tape i)))
    (contract : ∀ (W : World) (base : Nat) (args : Array Value) (ds gs : List (DataW H)) (before : List MemPlace) (m : Int),
      (∀ (j : Nat) t v, fn.params[j]? = some t → args[j]? = some v → Value.okWide Tryz.checked.prog W .any base t v) →
      DataW.Whole enc Tryz.checked.prog fn.params.toList s.vars false W args.toList ds gs before → W.cell? ⟨1, 0, none⟩ = some (.int .i64 m) →
      Calls Tryz.checked.prog f args W fun e W' => ∃ v, e = .returned v ∧ s.post enc Tryz.checked.prog fn false true false false W args v W') :
    ReturnsInHanded {} Tryz.checked os f .any (fun w args => (s.pre enc Tryz.checked.prog fn [] false w args ∧ X w) ∧ sizedMet enc Tryz.checked.prog fn (OpenSpec.ofChange s) false w args) (s.post enc Tryz.checked.prog fn false true false false) := by
  refine returnsInHanded_of_calls own started noInit witness ?_
  intro w tape i _ hsh _ hok hpre _
  obtain ⟨_, _, _, fn', hfn', _, _, _, _, hval⟩ := hok
  obtain rfl : fn' = fn := Option.some.inj (hfn'.symm.trans hfn)
  obtain ⟨⟨⟨ds, gs, before, hw, _⟩, _⟩, _⟩ := hpre
  obtain ⟨m, hm⟩ := maxLen_cell hsh
  refine (contract (w.forCall tape i) w.heap.size i.args ds gs before m hval (DataW.Whole.of_heap (w' := w.forCall tape i) (by rfl) hw) hm).mono fun e W' ⟨v, he, hp⟩ => ?_
  subst he
  exact ChangeSpec.post_blind hp
end Go.Proofs.YtachijkjcbajmaaGreatDoor
/-
  strconv.toError, laid at this program.
-/

namespace Go.Proofs
open Go.Shelf
open Go.RowKit
def Tryz.toErrT_ren : Go.Shelf.Ren := ⟨fun | 17 => 151 | 21 => 159 | 22 => 160 | 23 => 161 | 24 => 162 | 25 => 165 | 27 => 167 | 26 => 166 | 28 => 168 | 29 => 169 | 30 => 170 | 31 => 171 | 32 => 172 | 33 => 173 | 35 => 175 | 34 => 174 | 36 => 176 | 37 => 177 | 38 => 178 | 39 => 179 | 40 => 180 | n => n, fun | 9 => 9 | 3 => 3 | 24 => 93 | 34 => 180 | 4 => 4 | 39 => 181 | 44 => 187 | 37 => 88 | 0 => 0 | 47 => 123 | 50 => 195 | 48 => 193 | 2 => 2 | 52 => 197 | 22 => 165 | 5 => 5 | 55 => 200 | 59 => 203 | 60 => 170 | 20 => 20 | 61 => 204 | 36 => 162 | 65 => 207 | 66 => 208 | 67 => 98 | n => n, fun | 0 => 2 | 1 => 3 | 2 => 6 | 3 => 7 | 4 => 8 | n => n⟩
theorem Tryz.toErrT : Go.Proofs.LaysPu.n17 Tryz.prog Tryz.toErrT_ren := {
  mixed := by kernel_rfl
  f17 := Tryz.func151.trans (congrArg some (by kernel_rfl))
  f21 := Tryz.func159.trans (congrArg some (by kernel_rfl))
  f22 := Tryz.func160.trans (congrArg some (by kernel_rfl))
  f23 := Tryz.func161.trans (congrArg some (by kernel_rfl))
  f24 := Tryz.func162.trans (congrArg some (by kernel_rfl))
  f25 := Tryz.func165.trans (congrArg some (by kernel_rfl))
  f26 := Tryz.func166.trans (congrArg some (by kernel_rfl))
  f27 := Tryz.func167.trans (congrArg some (by kernel_rfl))
  f28 := Tryz.func168.trans (congrArg some (by kernel_rfl))
  f29 := Tryz.func169.trans (congrArg some (by kernel_rfl))
  f30 := Tryz.func170.trans (congrArg some (by kernel_rfl))
  f31 := Tryz.func171.trans (congrArg some (by kernel_rfl))
  f32 := Tryz.func172.trans (congrArg some (by kernel_rfl))
  f33 := Tryz.func173.trans (congrArg some (by kernel_rfl))
  f34 := Tryz.func174.trans (congrArg some (by kernel_rfl))
  f35 := Tryz.func175.trans (congrArg some (by kernel_rfl))
  f36 := Tryz.func176.trans (congrArg some (by kernel_rfl))
  f37 := Tryz.func177.trans (congrArg some (by kernel_rfl))
  f38 := Tryz.func178.trans (congrArg some (by kernel_rfl))
  f39 := Tryz.func179.trans (congrArg some (by kernel_rfl))
  f40 := Tryz.func180.trans (congrArg some (by kernel_rfl))
  t0 := Tryz.underlying0
  a0 := Tryz.isAgg0
  z0 := Tryz.sizeOf0
  v0 := Tryz.zeroValue0
  i0 := by kernel_rfl
  t2 := Tryz.underlying2
  a2 := Tryz.isAgg2
  z2 := Tryz.sizeOf2
  v2 := Tryz.zeroValue2
  i2 := by kernel_rfl
  t3 := Tryz.underlying3
  a3 := Tryz.isAgg3
  z3 := Tryz.sizeOf3
  v3 := Tryz.zeroValue3
  i3 := by kernel_rfl
  t4 := Tryz.underlying4
  a4 := Tryz.isAgg4
  z4 := Tryz.sizeOf4
  v4 := Tryz.zeroValue4
  i4 := by kernel_rfl
  t5 := Tryz.underlying5
  a5 := Tryz.isAgg5
  z5 := Tryz.sizeOf5
  v5 := Tryz.zeroValue5
  i5 := by kernel_rfl
  t9 := Tryz.underlying9
  a9 := Tryz.isAgg9
  z9 := Tryz.sizeOf9
  v9 := Tryz.zeroValue9
  i9 := by kernel_rfl
  t20 := Tryz.underlying20
  a20 := Tryz.isAgg20
  z20 := Tryz.sizeOf20
  v20 := Tryz.zeroValue20
  i20 := by kernel_rfl
  t22 := Tryz.underlying165
  a22 := Tryz.isAgg165
  z22 := Tryz.sizeOf165
  v22 := Tryz.zeroValue165
  i22 := by kernel_rfl
  t24 := Tryz.underlying93
  a24 := Tryz.isAgg93
  z24 := Tryz.sizeOf93
  v24 := Tryz.zeroValue93
  i24 := by kernel_rfl
  t34 := Tryz.underlying180
  a34 := Tryz.isAgg180
  z34 := Tryz.sizeOf180
  v34 := Tryz.zeroValue180
  i34 := by kernel_rfl
  c34 := by kernel_rfl
  t36 := Tryz.underlying162
  a36 := Tryz.isAgg162
  z36 := Tryz.sizeOf162
  v36 := Tryz.zeroValue162
  i36 := by kernel_rfl
  t37 := Tryz.underlying88
  a37 := Tryz.isAgg88
  z37 := Tryz.sizeOf88
  v37 := Tryz.zeroValue88
  i37 := by kernel_rfl
  t39 := Tryz.underlying181
  a39 := Tryz.isAgg181
  z39 := Tryz.sizeOf181
  v39 := Tryz.zeroValue181
  i39 := by kernel_rfl
  t44 := Tryz.underlying187
  a44 := Tryz.isAgg187
  z44 := Tryz.sizeOf187
  v44 := Tryz.zeroValue187
  i44 := by kernel_rfl
  t47 := Tryz.underlying123
  a47 := Tryz.isAgg123
  z47 := Tryz.sizeOf123
  v47 := Tryz.zeroValue123
  i47 := by kernel_rfl
  t48 := Tryz.underlying193
  a48 := Tryz.isAgg193
  z48 := Tryz.sizeOf193
  v48 := Tryz.zeroValue193
  i48 := by kernel_rfl
  t50 := Tryz.underlying195
  a50 := Tryz.isAgg195
  z50 := Tryz.sizeOf195
  v50 := Tryz.zeroValue195
  i50 := by kernel_rfl
  t52 := Tryz.underlying197
  a52 := Tryz.isAgg197
  z52 := Tryz.sizeOf197
  v52 := Tryz.zeroValue197
  i52 := by kernel_rfl
  t55 := Tryz.underlying200
  a55 := Tryz.isAgg200
  z55 := Tryz.sizeOf200
  v55 := Tryz.zeroValue200
  i55 := by kernel_rfl
  t59 := Tryz.underlying203
  a59 := Tryz.isAgg203
  z59 := Tryz.sizeOf203
  v59 := Tryz.zeroValue203
  i59 := by kernel_rfl
  t60 := Tryz.underlying170
  a60 := Tryz.isAgg170
  z60 := Tryz.sizeOf170
  v60 := Tryz.zeroValue170
  i60 := by kernel_rfl
  t61 := Tryz.underlying204
  a61 := Tryz.isAgg204
  z61 := Tryz.sizeOf204
  t65 := Tryz.underlying207
  a65 := Tryz.isAgg207
  z65 := Tryz.sizeOf207
  v65 := Tryz.zeroValue207
  i65 := by kernel_rfl
  t66 := Tryz.underlying208
  a66 := Tryz.isAgg208
  z66 := Tryz.sizeOf208
  v66 := Tryz.zeroValue208
  i66 := by kernel_rfl
  t67 := Tryz.underlying98
  a67 := Tryz.isAgg98
  z67 := Tryz.sizeOf98
  v67 := Tryz.zeroValue98
  i67 := by kernel_rfl
  g0 := by kernel_rfl
  m0 := by kernel_rfl
  g1 := by kernel_rfl
  m1 := by kernel_rfl
  g2 := by kernel_rfl
  m2 := by kernel_rfl
  g3 := by kernel_rfl
  m3 := by kernel_rfl
  g4 := by kernel_rfl
  m4 := by kernel_rfl }
end Go.Proofs
/-
  A MAP WITH INTEGER KEYS OF WHICH ALL ENTRIES ARE KNOWN: a new key comes behind; a look-up with 'ok'.
-/

namespace Go.Proofs.YtachijkjcbajmaaGreatDoor
open Go.RowKit

section
variable {P : Program} (w : World)

theorem isKey_int (q : IntKind) (i : Int) : MapKept.IsKey (.int q) (.int q i) := by simp [MapKept.IsKey]

theorem findNow_new (q : IntKind) (i : Int) : ∀ (l : List MapEntry) (n : Nat), (∀ x ∈ l, ∃ j, x.key = .int q j ∧ j ≠ i) → Instr.findNow (.int q) (.int q i) l n = some none
  | [], _, _ => rfl
  | e :: es, n, h => by
    obtain ⟨j, hj, hne⟩ := h e (by simp)
    have h1 : Instr.sameNow (.int q) (.int q i) e.key = some false := by
      rw [hj]
      simp [Instr.sameNow]
      exact fun h => hne h.symm
    unfold Instr.findNow
    rw [h1]
    exact findNow_new q i es (n + 1) fun x hx => h x (by simp [hx])

theorem run_insert_int {t k e : TypeId} {q : IntKind} (ht : P.underlying t = some (.map k e)) (hk : P.underlying k = some (.int q)) {b clock : Nat} {es : Array MapEntry} (hb : w.heap[b]? = some (.map es clock)) (i : Int) (val : Value)
    (hnew : ∀ x ∈ es.toList, ∃ j, x.key = .int q j ∧ j ≠ i) :
    (Instr.mapUpdate t (.map (some b)) (.int q i) val).run P w = .ok () { w with heap := w.heap.setIfInBounds b (.map (es.push { key := .int q i, val := val, born := clock }) (clock + 1)) } := by
  have hc : (Instr.checkKey false 10000 k (.int q i)).run P w = .ok () w := MapKept.run_checkKey hk (isKey_int q i) false 9999
  simp [Instr.mapUpdate, run_underlying ht, MapKept.run_getObj_map hb, hc, MapKept.run_findKey hk (findNow_new q i es.toList 0 hnew), MapKept.run_setObj_map _ hb, Result.andThen]

theorem wpList_insert_int {ops : Array Oper} {rest : List Oper} {o : Oper} {a : Act} {Q : Exit → Act → World → Prop}
    (hg : o.guard = none) (m x v : Operand) (t : TypeId) (hop : o.op = Op.insert t m x v) (k e : TypeId) (q : IntKind) (ht : P.underlying t = some (.map k e)) (hk : P.underlying k = some (.int q))
    (b clock : Nat) (es : Array MapEntry) (hm : a.eval m = .map (some b)) (hb : w.heap[b]? = some (.map es clock)) (i : Int) (hx : a.eval x = .int q i) (val : Value) (hv : a.eval v = val)
    (hnew : ∀ y ∈ es.toList, ∃ j, y.key = .int q j ∧ j ≠ i)
    (hK : ∀ w', w'.heap[b]? = some (.map (es.push { key := .int q i, val := val, born := clock }) (clock + 1)) → w.grownBy w' (some b) → wpList P ops Q rest (a.put o.dst undef) w') :
    wpList P ops Q (o :: rest) a w := by
  refine wpList_plain hg fun K' hK' => ?_
  unfold Oper.wp
  simp [execOp, hop, hm, hx, hv, run_insert_int w ht hk hb i val hnew, Result.andThen]
  refine hK' _ _ (hK _ ?_ ?_)
  · exact (MapKept.heap_set hb).1
  · exact ⟨rfl, rfl, rfl, by simp, fun j _ hj => (MapKept.heap_set hb).2 j (fun e => hj (by rw [e]))⟩

theorem run_look_hit {t k e : TypeId} {q : IntKind} (ht : P.underlying t = some (.map k e)) (hk : P.underlying k = some (.int q)) {b clock : Nat} {es : Array MapEntry} (hb : w.heap[b]? = some (.map es clock)) (i : Int) (m : Nat) (v : Value)
    (hf : Instr.findNow (.int q) (.int q i) es.toList 0 = some (some (m, v))) :
    (Instr.lookup t (.map (some b)) (.int q i) true).run P w = .ok (.tuple #[v, .bool true]) w := by
  have hc : ∀ em, (Instr.checkKey em 10000 k (.int q i)).run P w = .ok () w := fun em => MapKept.run_checkKey hk (isKey_int q i) em 9999
  simp [Instr.lookup, run_underlying ht, MapKept.run_getObj_map hb, hc, MapKept.run_findKey hk hf, Result.andThen]

theorem run_look_miss {t k e : TypeId} {q : IntKind} (ht : P.underlying t = some (.map k e)) (hk : P.underlying k = some (.int q)) {b clock : Nat} {es : Array MapEntry} (hb : w.heap[b]? = some (.map es clock)) (i : Int) (z : Value)
    (hz : (zeroValue e).run P w = .ok z w) (hnew : ∀ x ∈ es.toList, ∃ j, x.key = .int q j ∧ j ≠ i) :
    (Instr.lookup t (.map (some b)) (.int q i) true).run P w = .ok (.tuple #[z, .bool false]) w := by
  have hc : ∀ em, (Instr.checkKey em 10000 k (.int q i)).run P w = .ok () w := fun em => MapKept.run_checkKey hk (isKey_int q i) em 9999
  simp [Instr.lookup, run_underlying ht, MapKept.run_getObj_map hb, hc, MapKept.run_findKey hk (findNow_new q i es.toList 0 hnew), hz, Result.andThen]
end
end Go.Proofs.YtachijkjcbajmaaGreatDoor
/-
  PLAIN MATHEMATICS: orders by a number (-1, 0, 1); of bytes, of texts, of terms, of triples.
-/

namespace Go.Proofs.YtachijkjcbajmaaGreatDoor.Term
open Go

/-- A total order, by a number. -/
structure Ord {α : Type} (f : α → α → Int) : Prop where
  anti : ∀ x y, f y x = - f x y
  zero : ∀ x y, f x y = 0 ↔ x = y
  trans : ∀ x y z, f x y ≤ 0 → f y z ≤ 0 → f x z ≤ 0
  range : ∀ x y, f x y = -1 ∨ f x y = 0 ∨ f x y = 1

namespace Ord
variable {α β : Type} {f : α → α → Int} {g : β → β → Int}
theorem refl (h : Ord f) (x : α) : f x x = 0 := (h.zero x x).2 rfl
theorem le_lt (h : Ord f) {x y z : α} (h1 : f x y ≤ 0) (h2 : f y z < 0) : f x z < 0 := by
  have h3 := h.trans x y z h1 (by omega)
  by_cases e : f x z = 0
  · obtain rfl := (h.zero x z).1 e
    have := h.anti x y
    omega
  · omega
theorem lt_le (h : Ord f) {x y z : α} (h1 : f x y < 0) (h2 : f y z ≤ 0) : f x z < 0 := by
  have h3 := h.trans x y z (by omega) h2
  by_cases e : f x z = 0
  · obtain rfl := (h.zero x z).1 e
    have := h.anti x y
    omega
  · omega
theorem of_eq (h : Ord f) {x y : α} (e : f x y = 0) : x = y := (h.zero x y).1 e

/-- First by the one, then by the other. -/
def lex (f : α → α → Int) (g : β → β → Int) : α × β → α × β → Int := fun p q => if f p.1 q.1 = 0 then g p.2 q.2 else f p.1 q.1
theorem of_lex (hf : Ord f) (hg : Ord g) : Ord (lex f g) where
  anti p q := by
    have h1 := hf.anti p.1 q.1
    unfold lex
    by_cases e : f p.1 q.1 = 0
    · rw [if_pos e, if_pos (by omega), hg.anti]
    · rw [if_neg e, if_neg (by omega), h1]
  zero p q := by
    unfold lex
    by_cases e : f p.1 q.1 = 0
    · rw [if_pos e, hg.zero]
      have := hf.of_eq e
      constructor
      · intro h; exact Prod.ext this h
      · intro h; rw [h]
    · rw [if_neg e]
      constructor
      · intro h; exact absurd h e
      · intro h; rw [h, hf.refl] at e; exact absurd rfl e
  trans p q r h1 h2 := by
    unfold lex at *
    by_cases e1 : f p.1 q.1 = 0
    · rw [if_pos e1] at h1
      have e1' := hf.of_eq e1
      rw [← e1'] at h2
      by_cases e2 : f p.1 r.1 = 0
      · rw [if_pos e2] at h2 ⊢
        exact hg.trans _ _ _ h1 h2
      · rw [if_neg e2] at h2 ⊢
        exact h2
    · rw [if_neg e1] at h1
      have h1' : f p.1 q.1 < 0 := by omega
      have h3 : f q.1 r.1 ≤ 0 := by
        by_cases e2 : f q.1 r.1 = 0
        · omega
        · rw [if_neg e2] at h2; exact h2
      have h4 := hf.lt_le h1' h3
      rw [if_neg (by omega)]
      omega
  range p q := by
    unfold lex
    split
    · exact hg.range _ _
    · exact hf.range _ _
end Ord

def cmpI (a b : Int) : Int := if a < b then -1 else if b < a then 1 else 0
theorem ord_int : Ord cmpI where
  anti x y := by unfold cmpI; repeat' split <;> omega
  zero x y := by
    unfold cmpI
    constructor
    · intro h; repeat' split at h <;> omega
    · rintro rfl; simp
  trans x y z h1 h2 := by
    unfold cmpI at *
    repeat' split at *
    all_goals omega
  range x y := by
    unfold cmpI
    split
    · exact .inl rfl
    · split
      · exact .inr (.inr rfl)
      · exact .inr (.inl rfl)

theorem u8_lt (a b : UInt8) : a < b ↔ (a.toNat : Int) < (b.toNat : Int) := by
  rw [UInt8.lt_iff_toNat_lt]; omega
theorem cons_cmp (a b : UInt8) (az bs : List UInt8) : Lib.compareBytes (a :: az) (b :: bs) = if cmpI a.toNat b.toNat = 0 then Lib.compareBytes az bs else cmpI a.toNat b.toNat := by
  rw [Lib.compareBytes]
  unfold cmpI
  simp only [u8_lt]
  by_cases h1 : (a.toNat : Int) < b.toNat
  · simp [h1]
  · by_cases h2 : (b.toNat : Int) < a.toNat
    · simp [h1, h2]
    · simp [h1, h2]
theorem u8_eq {a b : UInt8} (h : cmpI a.toNat b.toNat = 0) : a = b := by
  have := ord_int.of_eq h
  exact UInt8.toNat_inj.1 (by omega)

theorem list_anti : ∀ a b : List UInt8, Lib.compareBytes b a = - Lib.compareBytes a b
  | [], [] => rfl
  | [], _ :: _ => rfl
  | _ :: _, [] => rfl
  | a :: az, b :: bs => by
    rw [cons_cmp, cons_cmp, list_anti az bs]
    have := ord_int.anti (a.toNat : Int) b.toNat
    by_cases e : cmpI (a.toNat : Int) b.toNat = 0
    · rw [if_pos e, if_pos (by omega)]
    · rw [if_neg e, if_neg (by omega), this]
theorem list_zero : ∀ a b : List UInt8, Lib.compareBytes a b = 0 ↔ a = b
  | [], [] => by simp [Lib.compareBytes]
  | [], _ :: _ => by simp [Lib.compareBytes]
  | _ :: _, [] => by simp [Lib.compareBytes]
  | a :: az, b :: bs => by
    rw [cons_cmp]
    by_cases e : cmpI (a.toNat : Int) b.toNat = 0
    · rw [if_pos e, list_zero az bs, u8_eq e]; simp
    · rw [if_neg e]
      constructor
      · intro h; exact absurd h e
      · intro h
        have := (List.cons.inj h).1
        rw [this, ord_int.refl] at e
        exact absurd rfl e
theorem list_range : ∀ a b : List UInt8, Lib.compareBytes a b = -1 ∨ Lib.compareBytes a b = 0 ∨ Lib.compareBytes a b = 1
  | [], [] => by simp [Lib.compareBytes]
  | [], _ :: _ => by simp [Lib.compareBytes]
  | _ :: _, [] => by simp [Lib.compareBytes]
  | a :: az, b :: bs => by
    rw [cons_cmp]
    split
    · exact list_range az bs
    · exact ord_int.range _ _
theorem list_trans : ∀ a b c : List UInt8, Lib.compareBytes a b ≤ 0 → Lib.compareBytes b c ≤ 0 → Lib.compareBytes a c ≤ 0
  | [], _, [], _, _ => by simp [Lib.compareBytes]
  | [], _, _ :: _, _, _ => by simp [Lib.compareBytes]
  | _ :: _, [], _, h, _ => by simp [Lib.compareBytes] at h
  | _ :: _, _ :: _, [], _, h => by simp [Lib.compareBytes] at h
  | a :: az, b :: bs, c :: cs, h1, h2 => by
    rw [cons_cmp] at h1 h2 ⊢
    by_cases e1 : cmpI (a.toNat : Int) b.toNat = 0
    · rw [if_pos e1] at h1
      rw [← u8_eq e1] at h2
      by_cases e2 : cmpI (a.toNat : Int) c.toNat = 0
      · rw [if_pos e2] at h2 ⊢
        exact list_trans az bs cs h1 h2
      · rw [if_neg e2] at h2 ⊢
        exact h2
    · rw [if_neg e1] at h1
      have h3 : cmpI (b.toNat : Int) c.toNat ≤ 0 := by
        by_cases e2 : cmpI (b.toNat : Int) c.toNat = 0
        · omega
        · rw [if_neg e2] at h2; exact h2
      have h4 := ord_int.lt_le (show cmpI (a.toNat : Int) b.toNat < 0 by omega) h3
      rw [if_neg (by omega)]
      omega

/-- How two texts stand. -/
def cmpB (a b : ByteArray) : Int := Lib.compareBytes a.data.toList b.data.toList
theorem ord_text : Ord cmpB where
  anti x y := list_anti _ _
  zero x y := by
    unfold cmpB
    rw [list_zero]
    constructor
    · intro h
      exact ByteArray.ext (Array.toList_inj.1 h)
    · rintro rfl; rfl
  trans x y z := list_trans _ _ _
  range x y := list_range _ _

/-- 'a < b' of two texts. -/
theorem less_cmp : ∀ a b : List UInt8, Op.bytesLess a b = decide (Lib.compareBytes a b < 0)
  | [], [] => rfl
  | [], _ :: _ => rfl
  | _ :: _, [] => rfl
  | a :: az, b :: bs => by
    rw [cons_cmp, Op.bytesLess, less_cmp az bs]
    by_cases h1 : a < b
    · have h2 := (u8_lt a b).1 h1
      have : cmpI (a.toNat : Int) b.toNat = -1 := by unfold cmpI; rw [if_pos h2]
      rw [this]
      simp [h1]
    · have h2 : ¬ (a.toNat : Int) < b.toNat := fun h => h1 ((u8_lt a b).2 h)
      by_cases h3 : a = b
      · subst h3
        rw [ord_int.refl]
        simp [h1]
      · have h4 : (a.toNat : Int) ≠ b.toNat := fun h => h3 (UInt8.toNat_inj.1 (by omega))
        have : cmpI (a.toNat : Int) b.toNat = 1 := by unfold cmpI; rw [if_neg h2, if_pos (by omega)]
        rw [this]
        simp [h1, h3]

/-- How two terms stand. -/
def cmpD (a b : Int × ByteArray × ByteArray) : Int := Ord.lex cmpI (Ord.lex cmpB cmpB) a b
theorem ord_term : Ord cmpD := ord_int.of_lex (ord_text.of_lex ord_text)
/-- How two triples stand. -/
def cmpT (a b : (Int × ByteArray × ByteArray) × (Int × ByteArray × ByteArray) × (Int × ByteArray × ByteArray)) : Int := Ord.lex cmpD (Ord.lex cmpD cmpD) a b
theorem ord_triple : Ord cmpT := ord_term.of_lex (ord_term.of_lex ord_term)
end Go.Proofs.YtachijkjcbajmaaGreatDoor.Term
/-
  THE LIBRARY CONTRACTS that the texts of this seat lean on, laid at this program.
-/

namespace Go.Proofs
open Go.Shelf
open Go.RowKit
def Tryz.lays137_ren : Go.Shelf.Ren := ⟨fun | 137 => 123 | 217 => 135 | 266 => 144 | n => n, fun | 9 => 9 | 5 => 5 | 3 => 3 | n => n, fun | n => n⟩
theorem Tryz.lays137 : Go.Proofs.Lays.n137 Tryz.prog Tryz.lays137_ren := {
  mixed := by kernel_rfl
  f137 := Tryz.func123.trans (congrArg some (by kernel_rfl))
  f217 := Tryz.func135.trans (congrArg some (by kernel_rfl))
  f266 := Tryz.func144.trans (congrArg some (by kernel_rfl))
  t3 := Tryz.underlying3
  a3 := Tryz.isAgg3
  z3 := Tryz.sizeOf3
  v3 := Tryz.zeroValue3
  t5 := Tryz.underlying5
  a5 := Tryz.isAgg5
  z5 := Tryz.sizeOf5
  v5 := Tryz.zeroValue5
  t9 := Tryz.underlying9
  a9 := Tryz.isAgg9
  z9 := Tryz.sizeOf9
  v9 := Tryz.zeroValue9 }
theorem Tryz.strings_IndexByte (s : ByteArray) (c : Int) (w : World) :
    Calls Tryz.prog 123 #[.string s, .int .u8 c] w fun e w' => e = .returned (.int .i64 (Lib.indexByte s.data.toList c.toNat.toUInt8)) ∧ w' = w := Any.strings_IndexByte Tryz.lays137 s c w
def Tryz.lays146_ren : Go.Shelf.Ren := ⟨fun | 146 => 131 | 221 => 141 | 268 => 147 | 138 => 148 | 143 => 149 | 195 => 154 | 197 => 155 | 218 => 156 | 219 => 124 | 260 => 164 | 217 => 135 | 225 => 136 | 224 => 137 | 267 => 138 | 266 => 144 | 314 => 145 | n => n, fun | 9 => 9 | 31 => 104 | 3 => 3 | 4 => 4 | 0 => 0 | 105 => 178 | 21 => 21 | 5 => 5 | 46 => 162 | 119 => 189 | 139 => 192 | 138 => 191 | 146 => 171 | 51 => 170 | n => n, fun | 1 => 1 | 3 => 4 | 4 => 5 | n => n⟩
theorem Tryz.lays146 : Go.Proofs.Lays.n146 Tryz.prog Tryz.lays146_ren := {
  mixed := by kernel_rfl
  f138 := Tryz.func148.trans (congrArg some (by kernel_rfl))
  f143 := Tryz.func149.trans (congrArg some (by kernel_rfl))
  f146 := Tryz.func131.trans (congrArg some (by kernel_rfl))
  f195 := Tryz.func154.trans (congrArg some (by kernel_rfl))
  f197 := Tryz.func155.trans (congrArg some (by kernel_rfl))
  f217 := Tryz.func135.trans (congrArg some (by kernel_rfl))
  f218 := Tryz.func156.trans (congrArg some (by kernel_rfl))
  f219 := Tryz.func124.trans (congrArg some (by kernel_rfl))
  f221 := Tryz.func141.trans (congrArg some (by kernel_rfl))
  f224 := Tryz.func137.trans (congrArg some (by kernel_rfl))
  f225 := Tryz.func136.trans (congrArg some (by kernel_rfl))
  f260 := Tryz.func164.trans (congrArg some (by kernel_rfl))
  f266 := Tryz.func144.trans (congrArg some (by kernel_rfl))
  f267 := Tryz.func138.trans (congrArg some (by kernel_rfl))
  f268 := Tryz.func147.trans (congrArg some (by kernel_rfl))
  f314 := Tryz.func145.trans (congrArg some (by kernel_rfl))
  t0 := Tryz.underlying0
  a0 := Tryz.isAgg0
  z0 := Tryz.sizeOf0
  v0 := Tryz.zeroValue0
  t3 := Tryz.underlying3
  a3 := Tryz.isAgg3
  z3 := Tryz.sizeOf3
  v3 := Tryz.zeroValue3
  t4 := Tryz.underlying4
  a4 := Tryz.isAgg4
  z4 := Tryz.sizeOf4
  v4 := Tryz.zeroValue4
  t5 := Tryz.underlying5
  a5 := Tryz.isAgg5
  z5 := Tryz.sizeOf5
  v5 := Tryz.zeroValue5
  t9 := Tryz.underlying9
  a9 := Tryz.isAgg9
  z9 := Tryz.sizeOf9
  v9 := Tryz.zeroValue9
  t21 := Tryz.underlying21
  a21 := Tryz.isAgg21
  z21 := Tryz.sizeOf21
  v21 := Tryz.zeroValue21
  t31 := Tryz.underlying104
  a31 := Tryz.isAgg104
  z31 := Tryz.sizeOf104
  v31 := Tryz.zeroValue104
  t46 := Tryz.underlying162
  a46 := Tryz.isAgg162
  z46 := Tryz.sizeOf162
  v46 := Tryz.zeroValue162
  t51 := Tryz.underlying170
  a51 := Tryz.isAgg170
  z51 := Tryz.sizeOf170
  v51 := Tryz.zeroValue170
  t105 := Tryz.underlying178
  a105 := Tryz.isAgg178
  z105 := Tryz.sizeOf178
  v105 := Tryz.zeroValue178
  t119 := Tryz.underlying189
  a119 := Tryz.isAgg189
  z119 := Tryz.sizeOf189
  t138 := Tryz.underlying191
  a138 := Tryz.isAgg191
  z138 := Tryz.sizeOf191
  v138 := Tryz.zeroValue191
  t139 := Tryz.underlying192
  a139 := Tryz.isAgg192
  z139 := Tryz.sizeOf192
  v139 := Tryz.zeroValue192
  t146 := Tryz.underlying171
  a146 := Tryz.isAgg171
  z146 := Tryz.sizeOf171
  v146 := Tryz.zeroValue171
  g1 := by kernel_rfl
  g3 := by kernel_rfl
  g4 := by kernel_rfl }
theorem Tryz.strings_Split (s sep : ByteArray) (m : Int) (w : World) (hs : s.size < 4294967281) (hm : w.cell? ⟨1, 0, none⟩ = some (.int .i64 m)) (h1 : 1 ≤ sep.size) :
    Calls Tryz.prog 131 #[.string s, .string sep] w fun e w' =>
      e = .returned (.slice (some ⟨w.heap.size, 0, none⟩) (Lib.countB s sep + 1) (Lib.countB s sep + 1)) ∧ w' = w.alloc (.cells ((Lib.splitB sep 0 (Lib.countB s sep) s).map Value.string).toArray 9) := Any.strings_Split Tryz.lays146 (by kernel_rfl) s sep m w hs hm h1
def Tryz.lays151_ren : Go.Shelf.Ren := ⟨fun | 151 => 139 | 152 => 146 | 137 => 123 | 119 => 153 | 224 => 137 | 225 => 136 | 217 => 135 | 266 => 144 | n => n, fun | 9 => 9 | 21 => 21 | 4 => 4 | 3 => 3 | 5 => 5 | 0 => 0 | 46 => 162 | n => n, fun | n => n⟩
theorem Tryz.lays151 : Go.Proofs.Lays.n151 Tryz.prog Tryz.lays151_ren := {
  mixed := by kernel_rfl
  f119 := Tryz.func153.trans (congrArg some (by kernel_rfl))
  f137 := Tryz.func123.trans (congrArg some (by kernel_rfl))
  f151 := Tryz.func139.trans (congrArg some (by kernel_rfl))
  f152 := Tryz.func146.trans (congrArg some (by kernel_rfl))
  f217 := Tryz.func135.trans (congrArg some (by kernel_rfl))
  f224 := Tryz.func137.trans (congrArg some (by kernel_rfl))
  f225 := Tryz.func136.trans (congrArg some (by kernel_rfl))
  f266 := Tryz.func144.trans (congrArg some (by kernel_rfl))
  t0 := Tryz.underlying0
  a0 := Tryz.isAgg0
  z0 := Tryz.sizeOf0
  v0 := Tryz.zeroValue0
  t3 := Tryz.underlying3
  a3 := Tryz.isAgg3
  z3 := Tryz.sizeOf3
  v3 := Tryz.zeroValue3
  t4 := Tryz.underlying4
  a4 := Tryz.isAgg4
  z4 := Tryz.sizeOf4
  v4 := Tryz.zeroValue4
  t5 := Tryz.underlying5
  a5 := Tryz.isAgg5
  z5 := Tryz.sizeOf5
  v5 := Tryz.zeroValue5
  t9 := Tryz.underlying9
  a9 := Tryz.isAgg9
  z9 := Tryz.sizeOf9
  v9 := Tryz.zeroValue9
  t21 := Tryz.underlying21
  a21 := Tryz.isAgg21
  z21 := Tryz.sizeOf21
  v21 := Tryz.zeroValue21
  t46 := Tryz.underlying162
  a46 := Tryz.isAgg162
  z46 := Tryz.sizeOf162
  v46 := Tryz.zeroValue162 }
theorem Tryz.strings_ContainsRune_ascii (s : ByteArray) (r : Int) (w : World) (h0 : 0 ≤ r) (h1 : r < 128) :
    Calls Tryz.prog 139 #[.string s, .int .i32 r] w fun e w' => e = .returned (.bool (decide (0 ≤ Lib.indexByte s.data.toList r.toNat.toUInt8))) ∧ w' = w := Any.strings_ContainsRune_ascii Tryz.lays151 s r w h0 h1
def Tryz.lays152_ren : Go.Shelf.Ren := ⟨fun | 152 => 146 | 137 => 123 | 119 => 153 | 224 => 137 | 225 => 136 | 217 => 135 | 266 => 144 | n => n, fun | 9 => 9 | 21 => 21 | 3 => 3 | 4 => 4 | 5 => 5 | 0 => 0 | 46 => 162 | n => n, fun | n => n⟩
theorem Tryz.lays152 : Go.Proofs.Lays.n152 Tryz.prog Tryz.lays152_ren := {
  mixed := by kernel_rfl
  f119 := Tryz.func153.trans (congrArg some (by kernel_rfl))
  f137 := Tryz.func123.trans (congrArg some (by kernel_rfl))
  f152 := Tryz.func146.trans (congrArg some (by kernel_rfl))
  f217 := Tryz.func135.trans (congrArg some (by kernel_rfl))
  f224 := Tryz.func137.trans (congrArg some (by kernel_rfl))
  f225 := Tryz.func136.trans (congrArg some (by kernel_rfl))
  f266 := Tryz.func144.trans (congrArg some (by kernel_rfl))
  t0 := Tryz.underlying0
  a0 := Tryz.isAgg0
  z0 := Tryz.sizeOf0
  v0 := Tryz.zeroValue0
  t3 := Tryz.underlying3
  a3 := Tryz.isAgg3
  z3 := Tryz.sizeOf3
  v3 := Tryz.zeroValue3
  t4 := Tryz.underlying4
  a4 := Tryz.isAgg4
  z4 := Tryz.sizeOf4
  v4 := Tryz.zeroValue4
  t5 := Tryz.underlying5
  a5 := Tryz.isAgg5
  z5 := Tryz.sizeOf5
  v5 := Tryz.zeroValue5
  t9 := Tryz.underlying9
  a9 := Tryz.isAgg9
  z9 := Tryz.sizeOf9
  v9 := Tryz.zeroValue9
  t21 := Tryz.underlying21
  a21 := Tryz.isAgg21
  z21 := Tryz.sizeOf21
  v21 := Tryz.zeroValue21
  t46 := Tryz.underlying162
  a46 := Tryz.isAgg162
  z46 := Tryz.sizeOf162
  v46 := Tryz.zeroValue162 }
theorem Tryz.strings_IndexRune_ascii (s : ByteArray) (r : Int) (w : World) (h0 : 0 ≤ r) (h1 : r < 128) :
    Calls Tryz.prog 146 #[.string s, .int .i32 r] w fun e w' => e = .returned (.int .i64 (Lib.indexByte s.data.toList r.toNat.toUInt8)) ∧ w' = w := Any.strings_IndexRune_ascii Tryz.lays152 s r w h0 h1
def Tryz.lays119_ren : Go.Shelf.Ren := ⟨fun | 119 => 153 | n => n, fun | 21 => 21 | 4 => 4 | n => n, fun | n => n⟩
theorem Tryz.lays119 : Go.Proofs.Lays.n119 Tryz.prog Tryz.lays119_ren := {
  mixed := by kernel_rfl
  f119 := Tryz.func153.trans (congrArg some (by kernel_rfl))
  t4 := Tryz.underlying4
  a4 := Tryz.isAgg4
  z4 := Tryz.sizeOf4
  v4 := Tryz.zeroValue4
  t21 := Tryz.underlying21
  a21 := Tryz.isAgg21
  z21 := Tryz.sizeOf21
  v21 := Tryz.zeroValue21 }
theorem Tryz.utf8_ValidRune (r : Int) (w : World) :
    Calls Tryz.prog 153 #[.int .i32 r] w fun e w' => e = .returned (.bool (Lib.validRune r)) ∧ w' = w := Any.utf8_ValidRune Tryz.lays119 r w
def Tryz.lays145_ren : Go.Shelf.Ren := ⟨fun | 145 => 89 | 220 => 107 | 219 => 124 | 217 => 135 | 225 => 136 | 224 => 137 | 267 => 138 | 266 => 144 | 314 => 145 | n => n, fun | 9 => 9 | 4 => 4 | 59 => 134 | 3 => 3 | 5 => 5 | 46 => 162 | 146 => 171 | 51 => 170 | n => n, fun | 1 => 1 | n => n⟩
theorem Tryz.lays145 : Go.Proofs.Lays.n145 Tryz.prog Tryz.lays145_ren := {
  mixed := by kernel_rfl
  f145 := Tryz.func89.trans (congrArg some (by kernel_rfl))
  f217 := Tryz.func135.trans (congrArg some (by kernel_rfl))
  f219 := Tryz.func124.trans (congrArg some (by kernel_rfl))
  f220 := Tryz.func107.trans (congrArg some (by kernel_rfl))
  f224 := Tryz.func137.trans (congrArg some (by kernel_rfl))
  f225 := Tryz.func136.trans (congrArg some (by kernel_rfl))
  f266 := Tryz.func144.trans (congrArg some (by kernel_rfl))
  f267 := Tryz.func138.trans (congrArg some (by kernel_rfl))
  f314 := Tryz.func145.trans (congrArg some (by kernel_rfl))
  t3 := Tryz.underlying3
  a3 := Tryz.isAgg3
  z3 := Tryz.sizeOf3
  v3 := Tryz.zeroValue3
  t4 := Tryz.underlying4
  a4 := Tryz.isAgg4
  z4 := Tryz.sizeOf4
  v4 := Tryz.zeroValue4
  t5 := Tryz.underlying5
  a5 := Tryz.isAgg5
  z5 := Tryz.sizeOf5
  v5 := Tryz.zeroValue5
  t9 := Tryz.underlying9
  a9 := Tryz.isAgg9
  z9 := Tryz.sizeOf9
  v9 := Tryz.zeroValue9
  t46 := Tryz.underlying162
  a46 := Tryz.isAgg162
  z46 := Tryz.sizeOf162
  v46 := Tryz.zeroValue162
  t51 := Tryz.underlying170
  a51 := Tryz.isAgg170
  z51 := Tryz.sizeOf170
  v51 := Tryz.zeroValue170
  t59 := Tryz.underlying134
  a59 := Tryz.isAgg134
  z59 := Tryz.sizeOf134
  v59 := Tryz.zeroValue134
  t146 := Tryz.underlying171
  a146 := Tryz.isAgg171
  z146 := Tryz.sizeOf171
  v146 := Tryz.zeroValue171
  g1 := by kernel_rfl }
theorem Tryz.strings_Cut (s sep : ByteArray) (m : Int) (w : World) (hs : s.size < 4294967281) (hm : w.cell? ⟨1, 0, none⟩ = some (.int .i64 m)) :
    Calls Tryz.prog 89 #[.string s, .string sep] w fun e w' => e = .returned (.tuple #[.string ⟨(Lib.cut s.data.toList sep.data.toList).1.toArray⟩, .string ⟨(Lib.cut s.data.toList sep.data.toList).2.1.toArray⟩, .bool (Lib.cut s.data.toList sep.data.toList).2.2]) ∧ ∃ n, w' = w.drewN n := Any.strings_Cut Tryz.lays145 s sep m w hs hm
def Tryz.laysM145_ren : Go.Shelf.Ren := ⟨fun | 145 => 89 | 220 => 107 | 219 => 124 | 217 => 135 | 225 => 136 | 224 => 137 | 267 => 138 | 266 => 144 | 314 => 145 | n => n, fun | 9 => 9 | 4 => 4 | 59 => 134 | 3 => 3 | 5 => 5 | 46 => 162 | 146 => 171 | 51 => 170 | n => n, fun | 1 => 1 | n => n⟩
theorem Tryz.laysM145 : Go.Proofs.LaysM.n145 Tryz.prog Tryz.laysM145_ren := {
  mixed := by kernel_rfl
  f145 := Tryz.func89.trans (congrArg some (by kernel_rfl))
  f217 := Tryz.func135.trans (congrArg some (by kernel_rfl))
  f219 := Tryz.func124.trans (congrArg some (by kernel_rfl))
  f220 := Tryz.func107.trans (congrArg some (by kernel_rfl))
  f224 := Tryz.func137.trans (congrArg some (by kernel_rfl))
  f225 := Tryz.func136.trans (congrArg some (by kernel_rfl))
  f266 := Tryz.func144.trans (congrArg some (by kernel_rfl))
  f267 := Tryz.func138.trans (congrArg some (by kernel_rfl))
  f314 := Tryz.func145.trans (congrArg some (by kernel_rfl))
  t3 := Tryz.underlying3
  a3 := Tryz.isAgg3
  z3 := Tryz.sizeOf3
  v3 := Tryz.zeroValue3
  t4 := Tryz.underlying4
  a4 := Tryz.isAgg4
  z4 := Tryz.sizeOf4
  v4 := Tryz.zeroValue4
  t5 := Tryz.underlying5
  a5 := Tryz.isAgg5
  z5 := Tryz.sizeOf5
  v5 := Tryz.zeroValue5
  t9 := Tryz.underlying9
  a9 := Tryz.isAgg9
  z9 := Tryz.sizeOf9
  v9 := Tryz.zeroValue9
  t46 := Tryz.underlying162
  a46 := Tryz.isAgg162
  z46 := Tryz.sizeOf162
  v46 := Tryz.zeroValue162
  t51 := Tryz.underlying170
  a51 := Tryz.isAgg170
  z51 := Tryz.sizeOf170
  v51 := Tryz.zeroValue170
  t59 := Tryz.underlying134
  a59 := Tryz.isAgg134
  z59 := Tryz.sizeOf134
  v59 := Tryz.zeroValue134
  t146 := Tryz.underlying171
  a146 := Tryz.isAgg171
  z146 := Tryz.sizeOf171
  v146 := Tryz.zeroValue171
  g1 := by kernel_rfl
  i3 := by kernel_rfl
  i4 := by kernel_rfl
  i5 := by kernel_rfl
  i9 := by kernel_rfl
  i46 := by kernel_rfl
  i51 := by kernel_rfl
  i59 := by kernel_rfl
  i146 := by kernel_rfl
  m1 := by kernel_rfl
  s1_3 := fun w h => Go.Proofs.cell_of_shapedOpen_int (zero := #[.int .i64 0]) (t := 3) h (of_decide_eq_true (by kernel_rfl)) (by kernel_rfl) rfl (by kernel_rfl) (by kernel_rfl) Tryz.underlying3 }
theorem Tryz.strings_Cut_shaped (s sep : ByteArray) (w : World) (h : w.ShapedOpen Tryz.prog) (hs : s.size < 4294967281) :
    Calls Tryz.prog 89 #[.string s, .string sep] w fun e w' => e = .returned (.tuple #[.string ⟨(Lib.cut s.data.toList sep.data.toList).1.toArray⟩, .string ⟨(Lib.cut s.data.toList sep.data.toList).2.1.toArray⟩, .bool (Lib.cut s.data.toList sep.data.toList).2.2]) ∧ ∃ n, w' = w.drewN n := Any.strings_Cut_shaped Tryz.laysM145 s sep w h hs
def Tryz.lays169_ren : Go.Shelf.Ren := ⟨fun | 169 => 47 | n => n, fun | 70 => 87 | 9 => 9 | 0 => 0 | 72 => 90 | 37 => 88 | 127 => 123 | 3 => 3 | 5 => 5 | n => n, fun | n => n⟩
theorem Tryz.lays169 : Go.Proofs.Lays.n169 Tryz.prog Tryz.lays169_ren := {
  mixed := by kernel_rfl
  f169 := Tryz.func47.trans (congrArg some (by kernel_rfl))
  t0 := Tryz.underlying0
  a0 := Tryz.isAgg0
  z0 := Tryz.sizeOf0
  v0 := Tryz.zeroValue0
  t3 := Tryz.underlying3
  a3 := Tryz.isAgg3
  z3 := Tryz.sizeOf3
  v3 := Tryz.zeroValue3
  t9 := Tryz.underlying9
  a9 := Tryz.isAgg9
  z9 := Tryz.sizeOf9
  v9 := Tryz.zeroValue9
  t37 := Tryz.underlying88
  a37 := Tryz.isAgg88
  z37 := Tryz.sizeOf88
  v37 := Tryz.zeroValue88
  t70 := Tryz.underlying87
  a70 := Tryz.isAgg87
  z70 := Tryz.sizeOf87
  v70 := Tryz.zeroValue87
  t72 := Tryz.underlying90
  a72 := Tryz.isAgg90
  z72 := Tryz.sizeOf90
  v72 := Tryz.zeroValue90
  t127 := Tryz.underlying123
  a127 := Tryz.isAgg123
  z127 := Tryz.sizeOf123
  v127 := Tryz.zeroValue123 }
theorem Tryz.Builder_Extra_169 : Builder.Extra Tryz.prog Tryz.lays169_ren := {
  sizeBuilder := by kernel_rfl
  liesBuilder := by kernel_rfl
  t5 := Tryz.underlying5
  a5 := Tryz.isAgg5
  z5 := Tryz.sizeOf5
  v5 := Tryz.zeroValue5
  infoByte := by kernel_rfl
  cellsByte := by kernel_rfl
  sizeByte := by kernel_rfl
  neB5 := by decide }
theorem Tryz.Builder_String_any_k (B b : Nat) (l : List UInt8) (w : World) (h : Lib.IsBuilderF 90 5 B b (Lib.byteCells l) w) (hBw : B ≤ w.heap.size) :
    Calls Tryz.prog 47 #[.pointer (some ⟨b, 0, none⟩)] w fun e w' => e = .returned (.string ⟨l.toArray⟩) ∧ (Lib.IsBuilderF 90 5 B b (Lib.byteCells l) w' ∧ Below B w w' ∧ Lib.OthersKept 5 (some b) w w') := Any.Builder_String_any_k Tryz.lays169 Tryz.Builder_Extra_169 B b l w h hBw
def Tryz.lays170_ren : Go.Shelf.Ren := ⟨fun | 170 => 46 | n => n, fun | 70 => 87 | 3 => 3 | 0 => 0 | 72 => 90 | 37 => 88 | 5 => 5 | n => n, fun | n => n⟩
theorem Tryz.lays170 : Go.Proofs.Lays.n170 Tryz.prog Tryz.lays170_ren := {
  mixed := by kernel_rfl
  f170 := Tryz.func46.trans (congrArg some (by kernel_rfl))
  t0 := Tryz.underlying0
  a0 := Tryz.isAgg0
  z0 := Tryz.sizeOf0
  v0 := Tryz.zeroValue0
  t3 := Tryz.underlying3
  a3 := Tryz.isAgg3
  z3 := Tryz.sizeOf3
  v3 := Tryz.zeroValue3
  t37 := Tryz.underlying88
  a37 := Tryz.isAgg88
  z37 := Tryz.sizeOf88
  v37 := Tryz.zeroValue88
  t70 := Tryz.underlying87
  a70 := Tryz.isAgg87
  z70 := Tryz.sizeOf87
  v70 := Tryz.zeroValue87
  t72 := Tryz.underlying90
  a72 := Tryz.isAgg90
  z72 := Tryz.sizeOf90
  v72 := Tryz.zeroValue90 }
theorem Tryz.Builder_Len_f (B b : Nat) (bs : List Value) (w : World) (h : Lib.IsBuilderF 90 5 B b bs w) :
    Calls Tryz.prog 46 #[.pointer (some ⟨b, 0, none⟩)] w fun e w' => e = .returned (.int .i64 bs.length) ∧ w' = w := Any.Builder_Len_f Tryz.lays170 B b bs w h
end Go.Proofs
/-
  PLAIN MATHEMATICS: lists in order, each once: there is one of them for the same elements; by insertion; by leaving out neighbours alike.
-/

namespace Go.Proofs.YtachijkjcbajmaaGreatDoor.Term
open Go

variable {α : Type} {f : α → α → Int}
/-- Each before the ones behind it. -/
def Strict (f : α → α → Int) (l : List α) : Prop := l.Pairwise fun a b => f a b < 0
/-- None behind the ones behind it. -/
def Weak (f : α → α → Int) (l : List α) : Prop := l.Pairwise fun a b => f a b ≤ 0

theorem strict_ext (h : Ord f) : ∀ {l k : List α}, Strict f l → Strict f k → (∀ x, x ∈ l ↔ x ∈ k) → l = k
  | [], [], _, _, _ => rfl
  | [], b :: k, _, _, e => by have := (e b).2 (by simp); cases this
  | a :: l, [], _, _, e => by have := (e a).1 (by simp); cases this
  | a :: l, b :: k, hl, hk, e => by
    unfold Strict at hl hk
    rw [List.pairwise_cons] at hl hk
    have hab : a = b := by
      rcases List.mem_cons.1 ((e a).1 (by simp)) with h1 | h1
      · exact h1
      · rcases List.mem_cons.1 ((e b).2 (by simp)) with h2 | h2
        · exact h2.symm
        · have h3 := hk.1 a h1
          have h4 := hl.1 b h2
          have h5 := h.anti a b
          omega
    subst hab
    rw [strict_ext h hl.2 hk.2 fun x => ?_]
    constructor
    · intro hx
      rcases List.mem_cons.1 ((e x).1 (by simp [hx])) with h1 | h1
      · subst h1
        have := hl.1 x hx
        rw [h.refl] at this
        omega
      · exact h1
    · intro hx
      rcases List.mem_cons.1 ((e x).2 (by simp [hx])) with h1 | h1
      · subst h1
        have := hk.1 x hx
        rw [h.refl] at this
        omega
      · exact h1

section
variable [DecidableEq α]
/-- What stands behind a, neighbours alike left out. -/
def compF : α → List α → List α
  | _, [] => []
  | a, b :: l => if a = b then compF a l else b :: compF b l
/-- Neighbours alike left out. -/
def compactL : List α → List α
  | [] => []
  | a :: l => a :: compF a l

theorem compF_mem (x : α) : ∀ (a : α) (l : List α), x ∈ a :: compF a l ↔ x ∈ a :: l
  | a, [] => by simp [compF]
  | a, b :: l => by
    unfold compF
    by_cases h : a = b
    · subst h
      rw [if_pos rfl, compF_mem x a l]
      simp
    · rw [if_neg h, List.mem_cons, compF_mem x b l]
      simp
theorem compactL_mem (x : α) (l : List α) : x ∈ compactL l ↔ x ∈ l := by
  cases l with
  | nil => rfl
  | cons a l => exact compF_mem x a l
theorem compF_strict (h : Ord f) : ∀ (a : α) (l : List α), Weak f (a :: l) → Strict f (a :: compF a l)
  | a, [], _ => by simp [compF, Strict]
  | a, b :: l, hw => by
    unfold Weak at hw
    rw [List.pairwise_cons] at hw
    unfold compF
    by_cases e : a = b
    · subst e
      rw [if_pos rfl]
      exact compF_strict h a l hw.2
    · rw [if_neg e]
      have ih := compF_strict h b l hw.2
      unfold Strict at *
      rw [List.pairwise_cons]
      refine ⟨fun x hx => ?_, ih⟩
      have hab : f a b < 0 := by
        have h1 := hw.1 b (by simp)
        have h2 : f a b ≠ 0 := fun h2 => e (h.of_eq h2)
        omega
      rcases List.mem_cons.1 hx with rfl | hx
      · exact hab
      · have h3 := (List.pairwise_cons.1 ih).1 x hx
        exact h.lt_le hab (by omega)
theorem compactL_strict (h : Ord f) (l : List α) (hw : Weak f l) : Strict f (compactL l) := by
  cases l with
  | nil => simp [compactL, Strict]
  | cons a l => exact compF_strict h a l hw

/-- Put in its place, if it is not there. -/
def insL (f : α → α → Int) (x : α) : List α → List α
  | [] => [x]
  | y :: l => if f y x < 0 then y :: insL f x l else if y = x then y :: l else x :: y :: l
theorem insL_mem (x z : α) : ∀ l : List α, z ∈ insL f x l ↔ z = x ∨ z ∈ l
  | [] => by simp [insL]
  | y :: l => by
    unfold insL
    by_cases h1 : f y x < 0
    · rw [if_pos h1, List.mem_cons, insL_mem x z l, List.mem_cons]
      constructor <;> (intro h; rcases h with h | h | h <;> simp [h])
    · rw [if_neg h1]
      by_cases h2 : y = x
      · subst h2
        rw [if_pos rfl]
        simp
      · rw [if_neg h2]
        simp
theorem insL_strict (h : Ord f) (x : α) : ∀ l : List α, Strict f l → Strict f (insL f x l)
  | [], _ => by simp [insL, Strict]
  | y :: l, hs => by
    have hs' := hs
    unfold Strict at hs
    rw [List.pairwise_cons] at hs
    unfold insL
    by_cases h1 : f y x < 0
    · rw [if_pos h1]
      unfold Strict
      rw [List.pairwise_cons]
      refine ⟨fun z hz => ?_, insL_strict h x l hs.2⟩
      rcases (insL_mem x z l).1 hz with rfl | hz
      · exact h1
      · exact hs.1 z hz
    · rw [if_neg h1]
      by_cases h2 : y = x
      · rw [if_pos h2]; exact hs'
      · rw [if_neg h2]
        have hxy : f x y < 0 := by
          have h3 := h.anti y x
          have h4 : f y x ≠ 0 := fun e => h2 (h.of_eq e)
          omega
        unfold Strict
        rw [List.pairwise_cons]
        refine ⟨fun z hz => ?_, hs'⟩
        rcases List.mem_cons.1 hz with rfl | hz
        · exact hxy
        · have := hs.1 z hz
          exact h.lt_le hxy (by omega)
/-- All of them, in order, each once. -/
def sortL (f : α → α → Int) (l : List α) : List α := l.foldl (fun out x => insL f x out) []
theorem foldl_ins (h : Ord f) : ∀ (l out : List α), Strict f out → Strict f (l.foldl (fun out x => insL f x out) out) ∧ ∀ z, z ∈ l.foldl (fun out x => insL f x out) out ↔ z ∈ out ∨ z ∈ l
  | [], out, ho => ⟨ho, by simp⟩
  | x :: l, out, ho => by
    obtain ⟨h1, h2⟩ := foldl_ins h l (insL f x out) (insL_strict h x out ho)
    refine ⟨h1, fun z => ?_⟩
    rw [List.foldl_cons, h2 z, insL_mem, List.mem_cons]
    constructor
    · rintro ((e | e) | e)
      · exact .inr (.inl e)
      · exact .inl e
      · exact .inr (.inr e)
    · rintro (e | e | e)
      · exact .inl (.inr e)
      · exact .inl (.inl e)
      · exact .inr e
theorem sortL_strict (h : Ord f) (l : List α) : Strict f (sortL f l) := (foldl_ins h l [] (by simp [Strict])).1
theorem sortL_mem (h : Ord f) (l : List α) (z : α) : z ∈ sortL f l ↔ z ∈ l := by
  unfold sortL
  rw [(foldl_ins h l [] (by simp [Strict])).2 z]
  simp
/-- In order, neighbours alike left out: the same. -/
theorem compact_sort (h : Ord f) {l k : List α} (hw : Weak f k) (hm : ∀ x, x ∈ k ↔ x ∈ l) : compactL k = sortL f l :=
  strict_ext h (compactL_strict h k hw) (sortL_strict h l) fun x => by rw [compactL_mem, sortL_mem h, hm]
theorem sortL_ext (h : Ord f) {l k : List α} (hm : ∀ x, x ∈ k ↔ x ∈ l) : sortL f k = sortL f l :=
  strict_ext h (sortL_strict h k) (sortL_strict h l) fun x => by rw [sortL_mem h, sortL_mem h, hm]
theorem sortL_self (h : Ord f) {l : List α} (hs : Strict f l) : sortL f l = l :=
  strict_ext h (sortL_strict h l) hs fun x => by rw [sortL_mem h]
end
end Go.Proofs.YtachijkjcbajmaaGreatDoor.Term
/-
  PLAIN MATHEMATICS OF LAYER 1 (runes as bytes), over lists of numbers; no program is named here but for the import of Rows' own ground.
-/

namespace Go.Proofs.YtachijkjcbajmaaGreatDoor.Utf

/-- A rune. -/
def May (r : Int) : Prop := 0 ≤ r ∧ r ≤ 1114111 ∧ (r < 55296 ∨ 57343 < r)
instance (r : Int) : Decidable (May r) := by unfold May; infer_instance

/-- How many bytes; 0: no rune. -/
def rsize (r : Int) : Nat := if May r then (if r ≤ 127 then 1 else if r ≤ 2047 then 2 else if r ≤ 65535 then 3 else 4) else 0

/-- The bytes of a rune. -/
def enc (r : Int) : List Int :=
  if r ≤ 127 then [r] else if r ≤ 2047 then [192 + r / 64, 128 + r % 64] else if r ≤ 65535 then [224 + r / 4096, 128 + r / 64 % 64, 128 + r % 64]
  else [240 + r / 262144, 128 + r / 4096 % 64, 128 + r / 64 % 64, 128 + r % 64]

/-- What the first byte bears, and how many it announces. -/
def lead (c : Int) : Int × Nat := if c ≤ 127 then (c, 1) else if c < 192 then (0, 0) else if c < 224 then (c - 192, 2) else if c < 240 then (c - 224, 3) else if c < 248 then (c - 240, 4) else (0, 0)

/-- A further byte. -/
def isCont (c : Int) : Bool := decide (128 ≤ c ∧ c < 192)

def fold (r : Int) (l : List Int) : Int := l.foldl (fun r c => r * 64 + (c - 128)) r

/-- The rune that bytes begin with, and how many bytes it has; 0: none. -/
def dec : List Int → Int × Nat
  | [] => (0, 0)
  | c :: l =>
    if (lead c).2 = 0 ∨ l.length + 1 < (lead c).2 then (0, 0)
    else if (l.take ((lead c).2 - 1)).all isCont = true then
      if rsize (fold (lead c).1 (l.take ((lead c).2 - 1))) = (lead c).2 then (fold (lead c).1 (l.take ((lead c).2 - 1)), (lead c).2) else (0, 0)
    else (0, 0)

def IsByte (c : Int) : Prop := 0 ≤ c ∧ c ≤ 255

theorem rsize_enc {r : Int} (h : May r) : rsize r = (enc r).length := by
  unfold rsize enc
  rw [if_pos h]
  repeat' split
  all_goals rfl

theorem enc_bytes {r : Int} (h : May r) : ∀ c ∈ enc r, IsByte c := by
  unfold May at h
  unfold enc IsByte
  repeat' split
  all_goals (intro c hc; simp at hc; omega)

theorem rsize_pos {r : Int} : 0 < rsize r ↔ May r := by
  unfold rsize
  constructor
  · intro h; by_cases hm : May r
    · exact hm
    · rw [if_neg hm] at h; omega
  · intro h; rw [if_pos h]; repeat' split
    all_goals omega

theorem rsize_le (r : Int) : rsize r ≤ 4 := by
  unfold rsize; repeat' split
  all_goals omega

theorem may_of_size {r : Int} {n : Nat} (h : rsize r = n) (hn : n ≠ 0) : May r := rsize_pos.1 (by omega)

theorem lead_cases (c : Int) : (c ≤ 127 ∧ lead c = (c, 1)) ∨ (192 ≤ c ∧ c < 224 ∧ lead c = (c - 192, 2)) ∨ (224 ≤ c ∧ c < 240 ∧ lead c = (c - 224, 3)) ∨ (240 ≤ c ∧ c < 248 ∧ lead c = (c - 240, 4)) ∨ lead c = (0, 0) := by
  unfold lead
  repeat' split
  all_goals first | (left; exact ⟨by omega, rfl⟩) | (right; left; exact ⟨by omega, by omega, rfl⟩) | (right; right; left; exact ⟨by omega, by omega, rfl⟩) | (right; right; right; left; exact ⟨by omega, by omega, rfl⟩) | (right; right; right; right; rfl)

theorem isCont_iff {c : Int} : isCont c = true ↔ 128 ≤ c ∧ c < 192 := by simp [isCont]

/-- The forms of what is read. -/
inductive Reads : List Int → Int → Nat → Prop
  | one (c : Int) (l : List Int) (h : c ≤ 127) (hr : rsize c = 1) : Reads (c :: l) c 1
  | two (c d : Int) (l : List Int) (h : 192 ≤ c ∧ c < 224) (hd : 128 ≤ d ∧ d < 192) (r : Int) (e : r = (c - 192) * 64 + (d - 128)) (hr : rsize r = 2) : Reads (c :: d :: l) r 2
  | three (c d f : Int) (l : List Int) (h : 224 ≤ c ∧ c < 240) (hd : 128 ≤ d ∧ d < 192) (hf : 128 ≤ f ∧ f < 192) (r : Int) (e : r = ((c - 224) * 64 + (d - 128)) * 64 + (f - 128)) (hr : rsize r = 3) : Reads (c :: d :: f :: l) r 3
  | four (c d f g : Int) (l : List Int) (h : 240 ≤ c ∧ c < 248) (hd : 128 ≤ d ∧ d < 192) (hf : 128 ≤ f ∧ f < 192) (hg : 128 ≤ g ∧ g < 192) (r : Int) (e : r = (((c - 240) * 64 + (d - 128)) * 64 + (f - 128)) * 64 + (g - 128)) (hr : rsize r = 4) : Reads (c :: d :: f :: g :: l) r 4

theorem dec_eq (c : Int) (l : List Int) : dec (c :: l) =
    if (lead c).2 = 0 ∨ l.length + 1 < (lead c).2 then (0, 0)
    else if (l.take ((lead c).2 - 1)).all isCont = true then
      if rsize (fold (lead c).1 (l.take ((lead c).2 - 1))) = (lead c).2 then (fold (lead c).1 (l.take ((lead c).2 - 1)), (lead c).2) else (0, 0)
    else (0, 0) := rfl

theorem dec_reads {l : List Int} {r : Int} {n : Nat} (h : dec l = (r, n)) (hn : n ≠ 0) : Reads l r n := by
  have fin : ∀ {x : Int}, ((0 : Int), 0) = (x, n) → False := fun e => hn (Prod.mk.inj e).2.symm
  cases l with
  | nil => exact (fin h).elim
  | cons c l =>
    rw [dec_eq] at h
    rcases lead_cases c with ⟨h1, e⟩ | ⟨h1, h2, e⟩ | ⟨h1, h2, e⟩ | ⟨h1, h2, e⟩ | e
    all_goals rw [e] at h
    all_goals (split at h; exact (fin h).elim; rename_i q0)
    all_goals (split at h; rotate_left; exact (fin h).elim)
    all_goals (split at h; rotate_left; exact (fin h).elim)
    all_goals (rename_i a b; obtain ⟨rfl, rfl⟩ := Prod.mk.inj h; clear h)
    · clear a
      exact .one _ _ h1 (by simpa [fold] using b)
    · match l, q0, a, b with
      | d :: l, q0, a, b =>
        simp [isCont_iff] at a
        exact .two c d l ⟨h1, h2⟩ a _ rfl (by simpa [fold] using b)
      | [], q0, _, _ => simp at q0
    · match l, q0, a, b with
      | d :: f :: l, q0, a, b =>
        simp [isCont_iff] at a
        exact .three c d f l ⟨h1, h2⟩ a.1 a.2 _ rfl (by simpa [fold] using b)
      | [d], q0, _, _ => simp at q0
      | [], q0, _, _ => simp at q0
    · match l, q0, a, b with
      | d :: f :: g :: l, q0, a, b =>
        simp [isCont_iff] at a
        exact .four c d f g l ⟨h1, h2⟩ a.1 a.2.1 a.2.2 _ rfl (by simpa [fold] using b)
      | [d, f], q0, _, _ => simp at q0
      | [d], q0, _, _ => simp at q0
      | [], q0, _, _ => simp at q0
    · simp at q0

theorem reads_dec {l : List Int} {r : Int} {n : Nat} (h : Reads l r n) : dec l = (r, n) := by
  have L : ∀ c, (c ≤ 127 → lead c = (c, 1)) ∧ (192 ≤ c ∧ c < 224 → lead c = (c - 192, 2)) ∧ (224 ≤ c ∧ c < 240 → lead c = (c - 224, 3)) ∧ (240 ≤ c ∧ c < 248 → lead c = (c - 240, 4)) := by
    intro c; unfold lead
    refine ⟨fun h => ?_, fun h => ?_, fun h => ?_, fun h => ?_⟩
    · rw [if_pos h]
    · rw [if_neg (by omega), if_neg (by omega), if_pos (by omega)]
    · rw [if_neg (by omega), if_neg (by omega), if_neg (by omega), if_pos (by omega)]
    · rw [if_neg (by omega), if_neg (by omega), if_neg (by omega), if_neg (by omega), if_pos (by omega)]
  cases h with
  | one c l h hr => rw [dec_eq, (L r).1 h]; simp [fold, hr]
  | two c d l h hd r e hr => rw [dec_eq, (L c).2.1 h]; simp [fold, isCont_iff, hd, ← e, hr]
  | three c d f l h hd hf r e hr => rw [dec_eq, (L c).2.2.1 h]; simp [fold, isCont_iff, hd, hf, ← e, hr]
  | four c d f g l h hd hf hg r e hr => rw [dec_eq, (L c).2.2.2 h]; simp [fold, isCont_iff, hd, hf, hg, ← e, hr]

theorem rsize_eq {r : Int} : (rsize r = 1 ↔ 0 ≤ r ∧ r ≤ 127) ∧ (rsize r = 2 ↔ 128 ≤ r ∧ r ≤ 2047) ∧ (rsize r = 3 ↔ 2048 ≤ r ∧ r ≤ 65535 ∧ (r < 55296 ∨ 57343 < r)) ∧ (rsize r = 4 ↔ 65536 ≤ r ∧ r ≤ 1114111) := by
  by_cases h : May r
  · unfold rsize
    rw [if_pos h]
    unfold May at h
    refine ⟨?_, ?_, ?_, ?_⟩
    all_goals (repeat' split)
    all_goals omega
  · unfold rsize
    rw [if_neg h]
    unfold May at h
    omega

/-- What was read is a rune, and its bytes stand there. -/
theorem reads_enc {l : List Int} {r : Int} {n : Nat} (h : Reads l r n) : May r ∧ n = rsize r ∧ enc r <+: l := by
  have key : rsize r = n := by cases h <;> assumption
  have hn : n ≠ 0 := by cases h <;> decide
  refine ⟨may_of_size key hn, key.symm, ?_⟩
  obtain ⟨s1, s2, s3, s4⟩ := rsize_eq (r := r)
  cases h with
  | one c l h hr => have := s1.1 hr; exact ⟨l, by unfold enc; rw [if_pos h]; rfl⟩
  | two c d l h hd r e hr => have := s2.1 hr; exact ⟨l, by unfold enc; rw [if_neg (by omega), if_pos (by omega)]; simp; omega⟩
  | three c d f l h hd hf r e hr => have := s3.1 hr; exact ⟨l, by unfold enc; rw [if_neg (by omega), if_neg (by omega), if_pos (by omega)]; simp; omega⟩
  | four c d f g l h hd hf hg r e hr => have := s4.1 hr; exact ⟨l, by unfold enc; rw [if_neg (by omega), if_neg (by omega), if_neg (by omega)]; simp; omega⟩

theorem enc_reads {r : Int} (h : May r) (l : List Int) : Reads (enc r ++ l) r (rsize r) := by
  obtain ⟨s1, s2, s3, s4⟩ := rsize_eq (r := r)
  have h' := h
  unfold May at h'
  by_cases a1 : r ≤ 127
  · have k := s1.2 (by omega)
    rw [k, show enc r = [r] by unfold enc; rw [if_pos a1]]
    exact .one _ _ a1 k
  by_cases a2 : r ≤ 2047
  · have k := s2.2 (by omega)
    rw [k, show enc r = [192 + r / 64, 128 + r % 64] by unfold enc; rw [if_neg a1, if_pos a2]]
    exact .two _ _ _ (by omega) (by omega) _ (by omega) k
  by_cases a3 : r ≤ 65535
  · have k := s3.2 (by omega)
    rw [k, show enc r = [224 + r / 4096, 128 + r / 64 % 64, 128 + r % 64] by unfold enc; rw [if_neg a1, if_neg a2, if_pos a3]]
    exact .three _ _ _ _ (by omega) (by omega) (by omega) _ (by omega) k
  · have k := s4.2 (by omega)
    rw [k, show enc r = [240 + r / 262144, 128 + r / 4096 % 64, 128 + r / 64 % 64, 128 + r % 64] by unfold enc; rw [if_neg a1, if_neg a2, if_neg a3]]
    exact .four _ _ _ _ _ (by omega) (by omega) (by omega) (by omega) _ (by omega) k

theorem dec_enc {r : Int} (h : May r) (l : List Int) : dec (enc r ++ l) = (r, rsize r) := reads_dec (enc_reads h l)

theorem dec_some {l : List Int} {r : Int} {n : Nat} (h : dec l = (r, n)) (hn : n ≠ 0) : May r ∧ n = rsize r ∧ enc r <+: l := reads_enc (dec_reads h hn)

/-- Nothing was read just where no rune's bytes stand. -/
theorem dec_none {l : List Int} : (dec l).2 = 0 ↔ ∀ r, May r → ¬ enc r <+: l := by
  constructor
  · intro h r hr ⟨t, e⟩
    rw [← e, dec_enc hr] at h
    have := rsize_pos.2 hr
    simp at h; omega
  · intro h
    by_cases hn : (dec l).2 = 0
    · exact hn
    · obtain ⟨a, _, c⟩ := dec_some (r := (dec l).1) (n := (dec l).2) rfl hn
      exact (h _ a c).elim

theorem dec_zero {l : List Int} (h : (dec l).2 = 0) : dec l = (0, 0) := by
  cases l with
  | nil => rfl
  | cons c l =>
    rw [dec_eq] at h ⊢
    split
    · rfl
    · rename_i q
      rw [if_neg q] at h
      split
      · rename_i a
        rw [if_pos a] at h
        split
        · rename_i b
          rw [if_pos b] at h
          exact absurd (Or.inl h) q
        · rfl
      · rfl

theorem dec_bad {c b0 : Int} {n : Nat} {l : List Int} (hl : lead c = (b0, n)) {k : Nat} {d : Int} (hk : k + 1 < n) (hd : l[k]? = some d) (hc : isCont d = false) : dec (c :: l) = (0, 0) := by
  rw [dec_eq, hl]
  split
  · rfl
  · rw [if_neg]
    intro h
    rw [List.all_eq_true] at h
    have hkl : k < l.length := (List.getElem?_eq_some_iff.1 hd).1
    have := h d (by
      have e : (l.take (n - 1))[k]? = some d := by rw [List.getElem?_take_of_lt (by omega)]; exact hd
      exact List.mem_of_getElem? e)
    rw [hc] at this
    exact absurd this (by decide)

theorem dec_short {c b0 : Int} {n : Nat} {l : List Int} (hl : lead c = (b0, n)) (h : n = 0 ∨ l.length + 1 < n) : dec (c :: l) = (0, 0) := by
  rw [dec_eq, hl, if_pos h]

theorem dec_done {c b0 : Int} {n : Nat} {l : List Int} (hl : lead c = (b0, n)) (h0 : n ≠ 0) (h1 : n ≤ l.length + 1) (ha : (l.take (n - 1)).all isCont = true) :
    dec (c :: l) = if rsize (fold b0 (l.take (n - 1))) = n then (fold b0 (l.take (n - 1)), n) else (0, 0) := by
  rw [dec_eq, hl, if_neg (by omega), if_pos ha]

theorem fold_snoc (b0 : Int) (l : List Int) (k : Nat) {d : Int} (h : l[k]? = some d) : fold b0 (l.take (k + 1)) = fold b0 (l.take k) * 64 + (d - 128) := by
  rw [List.take_add_one, h]
  simp [fold]

theorem all_snoc (l : List Int) (k : Nat) {d : Int} (h : l[k]? = some d) (ha : (l.take k).all isCont = true) (hd : isCont d = true) : (l.take (k + 1)).all isCont = true := by
  rw [List.take_add_one, h, List.all_append, ha]
  simp [hd]

theorem lead_bd {c : Int} (h : IsByte c) {b0 : Int} {n : Nat} (hl : lead c = (b0, n)) : 0 ≤ b0 ∧ b0 ≤ 127 ∧ n ≤ 4 := by
  unfold IsByte at h
  rcases lead_cases c with ⟨h1, e⟩ | ⟨h1, h2, e⟩ | ⟨h1, h2, e⟩ | ⟨h1, h2, e⟩ | e
  all_goals (rw [hl] at e; obtain ⟨rfl, rfl⟩ := Prod.mk.inj e; omega)

def getErr (n : Nat) : Int := if n = 0 then 4 else 0

theorem dec_le (l : List Int) : (dec l).2 ≤ l.length ∧ (dec l).2 ≤ 4 := by
  by_cases hn : (dec l).2 = 0
  · omega
  · obtain ⟨a, b, c⟩ := dec_some (r := (dec l).1) (n := (dec l).2) rfl hn
    rw [b]
    refine ⟨?_, rsize_le _⟩
    rw [rsize_enc a]
    exact c.length_le

end Go.Proofs.YtachijkjcbajmaaGreatDoor.Utf
/-
  PLAIN MATHEMATICS: the bytes of runes.
-/

namespace Go.Proofs.YtachijkjcbajmaaGreatDoor
namespace Utf
def encs (l : List Int) : List Int := l.flatMap enc
theorem enc_len (r : Int) : (enc r).length ≤ 4 := by
  unfold enc; repeat' split
  all_goals simp
theorem encs_len (l : List Int) : (encs l).length ≤ 4 * l.length := by
  induction l with
  | nil => simp [encs]
  | cons r l ih =>
    have := enc_len r
    simp only [encs, List.flatMap_cons, List.length_append, List.length_cons] at *
    omega
theorem encs_snoc (zs : List Int) (k : Nat) (h : k < zs.length) : encs (zs.take (k + 1)) = encs (zs.take k) ++ enc (zs[k]?.getD 0) := by
  have e : zs[k]? = some zs[k] := List.getElem?_eq_getElem h
  unfold encs
  rw [List.take_add_one, List.flatMap_append, e]
  simp
def AllMay (l : List Int) : Prop := ∀ r ∈ l, May r
theorem AllMay.snoc {zs : List Int} {k : Nat} (h : k < zs.length) (ha : AllMay (zs.take k)) (hm : May (zs[k]?.getD 0)) : AllMay (zs.take (k + 1)) := by
  intro r hr
  rw [List.take_add_one, List.mem_append] at hr
  rcases hr with hr | hr
  · exact ha r hr
  · simp [h] at hr
    subst hr
    simpa [h] using hm
theorem AllMay.at {zs : List Int} (ha : AllMay zs) {k : Nat} (h : k < zs.length) : May (zs[k]?.getD 0) := by
  simp only [List.getElem?_eq_getElem h, Option.getD_some]
  exact ha _ (List.getElem_mem h)
theorem encs_bytes {l : List Int} (h : AllMay l) : ∀ c ∈ encs l, IsByte c := by
  intro c hc
  simp only [encs, List.mem_flatMap] at hc
  obtain ⟨r, hr, hc⟩ := hc
  exact enc_bytes (h r hr) c hc
end Utf
end Go.Proofs.YtachijkjcbajmaaGreatDoor
/-
  CONTRACTS OF THE SMALL FUNCTIONS OF LAYER 1: size, mark, first, and of the law's num, of the reference's May.
-/

namespace Go.Proofs.YtachijkjcbajmaaGreatDoor
open Go.RowKit
open Utf
namespace Utf

/-- A string's bytes, as numbers. -/
def bs (s : ByteArray) : List Int := s.data.toList.map fun c => (c.toNat : Int)

theorem bs_length (s : ByteArray) : (bs s).length = s.size := by simp [bs]
theorem bs_byte (s : ByteArray) : ∀ c ∈ bs s, IsByte c := by
  intro c hc
  simp only [bs, List.mem_map] at hc
  obtain ⟨u, _, rfl⟩ := hc
  have := u.toNat_lt
  unfold IsByte; omega
theorem bs_get (s : ByteArray) (k : Nat) (h : k < s.size) : (bs s)[k]? = some (s[k].toNat : Int) := by
  simp only [bs, List.getElem?_map]
  rw [List.getElem?_eq_getElem (by simpa using h)]
  rfl
theorem bs_head (s : ByteArray) (h : 0 < s.size) : bs s = (s[0].toNat : Int) :: (bs s).tail := by
  have h1 := bs_get s 0 h
  cases e : bs s with
  | nil => rw [e] at h1; simp at h1
  | cons c l => rw [e] at h1; simp at h1; simp [h1]
theorem byte_bd (c : UInt8) : 0 ≤ (c.toNat : Int) ∧ (c.toNat : Int) ≤ 255 := by have := c.toNat_lt; omega
theorem ret_int {a b : Int} {k : IntKind} (h : a = b) : Ending.returned (.int k a) = .returned (.int k b) := by rw [h]
theorem ret_bool {a b : Bool} (h : a = b) : Ending.returned (.bool a) = .returned (.bool b) := by rw [h]
theorem ret2 {a b a' b' : Int} {k : IntKind} (h : a = a') (h' : b = b') : Ending.returned (.tuple #[.int k a, .int k b]) = .returned (.tuple #[.int k a', .int k b']) := by rw [h, h']

theorem nonempty {s : ByteArray} (h : 0 < s.size) : s.toList.isEmpty = false := by
  rw [← decide_eq_emptyBytes, decide_eq_false_iff_not]
  rintro rfl
  exact absurd h (by decide)

def markOf (n : Int) : Int := if n = 2 then 192 else if n = 3 then 224 else if n = 4 then 240 else 0
end Utf

theorem size_any (r : Int) (w : World) : Calls Tryz.prog 96 #[.int .i64 r] w fun e w' => e = .returned (.int .i64 (rsize r : Nat)) ∧ w = w' := by
  go_enter Tryz.func96, Tryz.ntmps96
  go_wp2
  all_goals
    go_ret
    refine ⟨ret_int ?_, rfl⟩
    have hr := rsize_eq (r := r)
    have hl := rsize_le r
    omega

theorem first_nil (w : World) : Calls Tryz.prog 95 #[.string ByteArray.empty] w fun e w' => e = .returned (.tuple #[.int .i64 0, .int .i64 0]) ∧ w = w' := by
  have h0 : ByteArray.empty.toList.isEmpty = true := by rw [← decide_eq_emptyBytes]; simp
  go_enter Tryz.func95, Tryz.ntmps95
  go_wp2
  go_ret2
  exact ⟨rfl, rfl⟩

theorem first_any (s : ByteArray) (w : World) (h0 : 0 < s.size) :
    Calls Tryz.prog 95 #[.string s] w fun e w' => e = .returned (.tuple #[.int .i64 (lead s[0].toNat).1, .int .i64 ((lead s[0].toNat).2 : Nat)]) ∧ w = w' := by
  have hne : s.toList.isEmpty = false := nonempty h0
  go_enter Tryz.func95, Tryz.ntmps95
  go_wp2
  all_goals
    have hw : wrap64 (s[0].toNat : Int) = s[0].toNat := IntWalk.wrap64_in _ (by have := byte_bd s[0]; omega)
    simp only [hw] at *
    go_ret2
    refine ⟨?_, rfl⟩
    apply ret2
    all_goals
      unfold lead
      first
        | rw [if_pos (by omega)]
        | rw [if_neg (by omega), if_pos (by omega)]
        | rw [if_neg (by omega), if_neg (by omega), if_pos (by omega)]
        | rw [if_neg (by omega), if_neg (by omega), if_neg (by omega), if_pos (by omega)]
        | rw [if_neg (by omega), if_neg (by omega), if_neg (by omega), if_neg (by omega), if_pos (by omega)]
        | rw [if_neg (by omega), if_neg (by omega), if_neg (by omega), if_neg (by omega), if_neg (by omega)]
      try rfl
end Go.Proofs.YtachijkjcbajmaaGreatDoor
/-
  THE CONTRACT OF utf.Get.
-/

namespace Go.Proofs.YtachijkjcbajmaaGreatDoor
open Go.RowKit
open Utf

/-- A scope whose one label lies ahead: the run goes on behind it, and jumps no more. -/
theorem wp_scope_ahead {P : Program} {a : Act} {w : World} {Q : Exit → Act → World → Prop} {c rest : Code} (l : Nat) (hf : findLabel c l = some rest)
    (first : c.wp P (Exit.jump l (fun a w => rest.wp P (Exit.noGoto Q) a w) Q) a w) : (Code.scope c).wp P Q a w := by
  refine wp_scope_jumps l _ (fun _ _ => 0) hf first ?_
  intro a w h
  refine wp_mono h ?_
  intro e a' w' hq
  cases e with
  | goto l' => exact hq.elim
  | _ => exact hq

namespace Utf
def gotten (l : List Int) : Ending := .returned (.tuple #[.int .i64 (dec l).1, .int .i64 ((dec l).2 : Nat), .int .i64 (getErr (dec l).2)])
theorem gotten_zero {l : List Int} (h : dec l = (0, 0)) : .returned (.tuple #[.int .i64 0, .int .i64 0, .int .i64 4]) = gotten l := by
  unfold gotten; rw [h]; rfl
end Utf

set_option maxHeartbeats 400000 in
theorem get_empty (s : ByteArray) (w : World) (h0 : s.size = 0) : Calls Tryz.prog 77 #[.string s] w fun e w' => e = gotten (bs s) ∧ w = w' := by
  have hs : s = ByteArray.empty := by
    apply ByteArray.ext
    apply Array.eq_empty_of_size_eq_zero
    exact h0
  subst hs
  have H := Lib.hid (gotten_zero (l := bs ByteArray.empty) rfl)
  go_enter Tryz.func77, Tryz.ntmps77
  go_wp2_with fail
  refine wp_scope_ahead 0 rfl ?_
  go_wp2_with (go_at_call 95; refine (first_nil _).mono ?_; rintro e w' ⟨rfl, rfl⟩)
  go_step3
  refine ⟨rfl, ?_⟩
  go_wp2
  try rw [Exit.noGoto_ret]
  go_ret3
  exact ⟨H.out, rfl⟩

set_option maxHeartbeats 400000 in
theorem get_short (s : ByteArray) (w : World) (h0 : 0 < s.size) (hs : s.size ≤ 9223372036854775807) {b0 : Int} {n : Nat} (hl : lead s[0].toNat = (b0, n)) (hn : n = 0 ∨ s.size < n) : Calls Tryz.prog 77 #[.string s] w fun e w' => e = gotten (bs s) ∧ w = w' := by
  have H := Lib.hid (gotten_zero (l := bs s) (by
    rw [bs_head s h0]
    exact dec_short hl (by have := bs_length s; rw [bs_head s h0] at this; simp at this ⊢; omega)))
  have HF := Lib.hid (first_any s w h0)
  have hb := (lead_bd (by have := byte_bd s[0]; exact this) hl).2.2
  rw [hl] at HF
  clear hl
  go_enter Tryz.func77, Tryz.ntmps77
  go_wp2_with fail
  refine wp_scope_ahead 0 rfl ?_
  rcases hn with rfl | hn
  · go_wp2_with (go_at_call 95; refine HF.out.mono ?_; rintro e w' ⟨rfl, rfl⟩)
    go_step3
    refine ⟨rfl, ?_⟩
    go_wp2
    try rw [Exit.noGoto_ret]
    go_ret3
    exact ⟨H.out, rfl⟩
  · have hn0 : ((n : Int) == 0) = false := by simp; omega
    go_wp2_with (go_at_call 95; refine HF.out.mono ?_; rintro e w' ⟨rfl, rfl⟩)
    go_step3
    refine ⟨rfl, ?_⟩
    go_wp2
    try rw [Exit.noGoto_ret]
    go_ret3
    exact ⟨H.out, rfl⟩

theorem fold_bd {b0 : Int} (hb : 0 ≤ b0 ∧ b0 ≤ 127) {l : List Int} : ∀ k, k ≤ 3 → (l.take k).all isCont = true → 0 ≤ fold b0 (l.take k) ∧ fold b0 (l.take k) ≤ 40000000 := by
  have step : ∀ k (B : Int), (0 ≤ fold b0 (l.take k) ∧ fold b0 (l.take k) ≤ B) → (l.take (k + 1)).all isCont = true → 63 ≤ B → 0 ≤ fold b0 (l.take (k + 1)) ∧ fold b0 (l.take (k + 1)) ≤ B * 64 + 63 := by
    intro k B h ha hB
    by_cases hk : k < l.length
    · have hd : l[k]? = some l[k] := List.getElem?_eq_getElem hk
      rw [fold_snoc b0 l k hd]
      rw [List.all_eq_true] at ha
      have := ha l[k] (List.mem_of_getElem? (i := k) (by rw [List.getElem?_take_of_lt (by omega)]; exact hd))
      rw [isCont_iff] at this
      omega
    · rw [List.take_of_length_le (by omega)]
      rw [List.take_of_length_le (by omega)] at h
      omega
  have le : ∀ k, (l.take (k + 1)).all isCont = true → (l.take k).all isCont = true := by
    intro k h
    rw [List.all_eq_true] at h ⊢
    intro x hx
    exact h x (List.mem_of_mem_take (by rw [List.take_take]; rw [show min k (k+1) = k by omega]; exact hx))
  intro k hk ha
  have h0 : 0 ≤ fold b0 (l.take 0) ∧ fold b0 (l.take 0) ≤ 127 := by simp [fold]; exact hb
  match k, hk, ha with
  | 0, _, _ => omega
  | 1, _, ha => have := step 0 127 h0 ha (by omega); simp only [Nat.zero_add] at this; omega
  | 2, _, ha =>
    have h1 := step 0 127 h0 (le _ ha) (by omega)
    have := step 1 _ h1 ha (by omega); simp only [Nat.reduceAdd] at this; omega
  | 3, _, ha =>
    have h1 := step 0 127 h0 (le _ (le _ ha)) (by omega)
    have h2 := step 1 _ h1 (le _ ha) (by omega)
    have := step 2 _ h2 ha (by omega); simp only [Nat.reduceAdd] at this; omega

def Conts (l : List Int) (k : Nat) : Prop := (l.take k).all isCont = true

set_option maxRecDepth 100000 in
set_option maxHeartbeats 1000000 in
theorem get_long (s : ByteArray) (w : World) (h0 : 0 < s.size) (hs : s.size ≤ 9223372036854775807) {b0 : Int} {n : Nat} (hl : lead s[0].toNat = (b0, n)) (hn : n ≠ 0) (hn2 : n ≤ s.size) : Calls Tryz.prog 77 #[.string s] w fun e w' => e = gotten (bs s) ∧ w = w' := by
  obtain ⟨hb0, hb1, hb⟩ := lead_bd (by have := byte_bd s[0]; exact this) hl
  have HF := Lib.hid (first_any s w h0)
  rw [hl] at HF
  have HL := Lib.hid hl
  clear hl
  obtain ⟨l, HB, hll⟩ : ∃ l : List Int, Hid (bs s = (s[0].toNat : Int) :: l) ∧ l.length + 1 = s.size := ⟨(bs s).tail, Lib.hid (bs_head s h0), by rw [List.length_tail, bs_length]; omega⟩
  have hget : ∀ k, (h : k + 1 < s.size) → l[k]? = some (s[k + 1].toNat : Int) := by
    intro k h
    have := bs_get s (k + 1) h
    rw [HB.out] at this
    simpa using this
  have HG := Lib.hid hget
  clear hget
  have hn0 : ((n : Int) == 0) = false := by simp; omega
  go_enter Tryz.func77, Tryz.ntmps77
  go_wp2_with fail
  refine wp_scope_ahead 0 rfl ?_
  go_wp2_with (go_at_call 95; refine HF.out.mono ?_; rintro e w' ⟨rfl, rfl⟩)
  go_loop [5, 7] (fun r i => ∃ k : Nat, k + 1 ≤ n ∧ i = .int .i64 ((k + 1 : Nat) : Int) ∧ r = .int .i64 (fold b0 (l.take k)) ∧ Conts l k) (fun _ i => n - (intOf i).toNat)
  case atStart => exact ⟨0, by omega, by simp, rfl, rfl⟩
  case round =>
    obtain ⟨k, hk, rfl, rfl, HA⟩ := hrel
    have hf := fold_bd (l := l) ⟨hb0, hb1⟩ k (by omega) HA
    obtain ⟨hf0, hf1⟩ := hf
    by_cases hlt : k + 1 < n
    · have hks : k + 1 < s.size := by omega
      have hg := HG.out k hks
      have HS := Lib.hid (fold_snoc b0 l k hg)
      have HX := Lib.hid hg
      clear hg
      go_wp2
      · go_step3
        refine ⟨rfl, ?_⟩
        go_wp2
        try rw [Exit.noGoto_ret]
        go_ret3
        have h1 : (s[k + 1].toNat : Int) < 128 := by assumption
        exact ⟨gotten_zero (by rw [HB.out]; exact dec_bad HL.out hlt HX.out (by simp [isCont]; omega)), rfl⟩
      · go_step3
        refine ⟨rfl, ?_⟩
        go_wp2
        try rw [Exit.noGoto_ret]
        go_ret3
        have h1 : 192 ≤ (s[k + 1].toNat : Int) := by assumption
        exact ⟨gotten_zero (by rw [HB.out]; exact dec_bad HL.out hlt HX.out (by simp [isCont]; omega)), rfl⟩
      · have h1 : (s[k + 1].toNat : Int) < 192 := by assumption
        have h2 : 128 ≤ (s[k + 1].toNat : Int) := by assumption
        go_round
        case rel => exact ⟨k + 1, by omega, by simp, HS.out.symm, all_snoc l k HX.out HA (by rw [isCont_iff]; omega)⟩
        case measure => simp [intOf]; omega
    · obtain rfl : n = k + 1 := by omega
      have hd := dec_done HL.out (by omega) (by omega) HA
      rw [← HB.out] at hd
      have HD := Lib.hid hd
      clear hd
      simp only [Nat.add_sub_cancel] at HD
      generalize hF : fold b0 (List.take k l) = F at *
      have HF2 := Lib.hid hF
      clear hF
      have HZ := Lib.hid (size_any F w)
      by_cases hsz : rsize F = k + 1
      · rw [if_pos hsz] at HD
        rw [hsz] at HZ
        clear hsz
        go_wp2_with (go_at_call 96; refine HZ.out.mono ?_; rintro e w' ⟨rfl, rfl⟩)
        simp only [Exit.jump]
        go_ret3
        refine ⟨?_, rfl⟩
        unfold gotten
        rw [HD.out]
        simp [getErr]
      · rw [if_neg hsz] at HD
        generalize rsize F = z at *
        have hne : ((z : Int) != (k : Int) + 1) = true := by rw [bne_iff_ne]; omega
        go_wp2_with (go_at_call 96; refine HZ.out.mono ?_; rintro e w' ⟨rfl, rfl⟩)
        go_step3
        refine ⟨rfl, ?_⟩
        go_wp2
        try rw [Exit.noGoto_ret]
        go_ret3
        exact ⟨gotten_zero HD.out, rfl⟩

theorem get_any (s : ByteArray) (w : World) (hs : s.size ≤ 9223372036854775807) : Calls Tryz.prog 77 #[.string s] w fun e w' => e = gotten (bs s) ∧ w = w' := by
  by_cases h0 : s.size = 0
  · exact get_empty s w h0
  · have h1 : 0 < s.size := by omega
    obtain ⟨b0, n, hl⟩ : ∃ b0 n, lead s[0].toNat = (b0, n) := ⟨_, _, rfl⟩
    by_cases hn : n = 0 ∨ s.size < n
    · exact get_short s w h1 hs hl hn
    · exact get_long s w h1 hs hl (by omega) (by omega)
end Go.Proofs.YtachijkjcbajmaaGreatDoor
/-
  THE CONTRACT OF utf.mark.
-/

namespace Go.Proofs.YtachijkjcbajmaaGreatDoor
open Go.RowKit
open Utf

theorem mark_any (n : Int) (w : World) : Calls Tryz.prog 163 #[.int .i64 n] w fun e w' => e = .returned (.int .u8 (markOf n)) ∧ w = w' := by
  go_enter Tryz.func163, Tryz.ntmps163
  go_wp2
  all_goals
    go_ret
    refine ⟨ret_int ?_, rfl⟩
    simp_all [markOf]

end Go.Proofs.YtachijkjcbajmaaGreatDoor
/-
  LEMMAS on rows that a call makes.
-/

namespace Go.Proofs.YtachijkjcbajmaaGreatDoor
open Go.RowKit
open Utf

theorem info_u8 : (Tryz.prog.info? 5).map (fun i => (i.zero, i.size, i.bytes)) = some (some (.int .u8 0), 1, 1) := by kernel_rfl

theorem cells_new (w : World) (cs : Array Value) (t : TypeId) (news : List Value) (h : ∀ (j : Nat) (u : Value), news[j]? = some u → cs[j]? = some u) :
    ∀ (j : Nat) (u : Value), news[j]? = some u → (w.alloc (.cells cs t)).cell? ((⟨w.heap.size, 0, none⟩ : Addr).add j) = some u := by
  intro j u hj
  have e : (⟨w.heap.size, 0, none⟩ : Addr).add j = ⟨w.heap.size, j, none⟩ := by unfold Addr.add; split <;> simp_all
  rw [e, World.cell?_alloc_at _ _ _ _ rfl]
  exact h j u hj

theorem grown_alloc {w w' : World} {row : Option Nat} (o : Obj) (h : (w.alloc o).grownBy w' row) : w.grownBy w' row :=
  ⟨h.os, h.tape, h.output, Nat.le_trans (by simp) h.size, fun k hk hr => (h.block k (by simp; omega) hr).trans (Below.heap_alloc _ _ _ hk)⟩

theorem pre2 (a b c d : Value) : ∀ (j : Nat) (u : Value), [a, b][j]? = some u → #[a, b, c, d][j]? = some u := by
  intro j u h
  match j, h with
  | 0, h => exact h
  | 1, h => exact h
  | j + 2, h => simp at h
theorem pre1 (a b c d : Value) : ∀ (j : Nat) (u : Value), [a][j]? = some u → #[a, b, c, d][j]? = some u := by
  intro j u h
  match j, h with
  | 0, h => exact h
  | j + 1, h => simp at h
theorem pre3 (a b c d : Value) : ∀ (j : Nat) (u : Value), [a, b, c][j]? = some u → #[a, b, c, d][j]? = some u := by
  intro j u h
  match j, h with
  | 0, h => exact h
  | 1, h => exact h
  | 2, h => exact h
  | j + 3, h => simp at h
theorem pre4 (a b c d : Value) : ∀ (j : Nat) (u : Value), [a, b, c, d][j]? = some u → #[a, b, c, d][j]? = some u := by
  intro j u h
  simpa using h

theorem below_of_grown {w w' : World} (h : w.grownBy w' (Value.slice none 0 0).ownBlock) : Below w.heap.size w w' := (Below.refl _ _).grown h (Nat.le_refl _) (fun k e => by cases e)
end Go.Proofs.YtachijkjcbajmaaGreatDoor
/-
  THE CONTRACT OF utf.add, AND OF utf.Put.
-/

namespace Go.Proofs.YtachijkjcbajmaaGreatDoor
open Go.RowKit
open Utf

/-- What add does: the rune's bytes are appended. -/
def Added (w : World) (B : Nat) (v : Value) (n : Nat) (xs : List Int) (r : Int) (e : Ending) (w' : World) : Prop :=
  ∃ v', e = .returned (.tuple #[v', .int .i64 0]) ∧ w'.ownsRow B 5 1 v' (n + rsize r) ((xs ++ enc r).map (Value.int .u8)) ∧ w.grownBy w' v.ownBlock

theorem added_of {w : World} {B : Nat} {v : Value} {n : Nat} {xs : List Int} {r : Int} {v' : Value} {w' : World} {m : Nat} {news : List Value} {o : Obj} (hm : rsize r = m) (hn : news = (enc r).map (Value.int .u8))
    (h : w'.ownsRow B 5 1 v' (n + m) (xs.map (Value.int .u8) ++ news)) (hg : (w.alloc o).grownBy w' v.ownBlock) : Added w B v n xs r (.returned (.tuple #[v', .int .i64 0])) w' :=
  ⟨v', rfl, by rw [hm, List.map_append, ← hn]; exact h, grown_alloc o hg⟩

set_option maxRecDepth 100000 in
set_option maxHeartbeats 1000000 in
theorem add_one (r : Int) (w : World) (B : Nat) (hB : B ≤ w.heap.size) (v : Value) (n : Nat) (xs : List Int) (hown : w.ownsRow B 5 1 v n (xs.map (Value.int .u8))) (hn : n ≤ 1000000000000)
   (h0 : 0 ≤ r) (h1 : r ≤ 127) :
    Calls Tryz.prog 152 #[v, .int .i64 r] w (Added w B v n xs r) := by
  obtain ⟨i0, hi, hz0, hz1, hz2⟩ := info_parts info_u8
  have hr := rsize_eq.1.2 ⟨h0, h1⟩
  have HZ := Lib.hid (size_any r)
  rw [hr] at HZ
  have HR := Lib.hid hr
  clear hr
  go_enter Tryz.func152, Tryz.ntmps152
  go_wp2_with fail
  refine wp_scope_ahead 0 rfl ?_
  go_wp2_with (first | (go_at_call 96; refine (HZ.out _).mono ?_; rintro e w' ⟨rfl, rfl⟩) | (go_at_call 163; refine (mark_any 1 _).mono ?_; rw [show markOf 1 = 0 from rfl]; rintro e w' ⟨rfl, rfl⟩) | (at_builtin; refine wpList_append_own _ rfl _ _ 88 rfl B 5 i0 (.int .u8 0) 1 1 Tryz.underlying88 hi hz0 hz1 hz2 rfl (by decide) _ _ _ rfl (hown.alloc _) ⟨w.heap.size, 0, none⟩ 1 4 [.int .u8 r] rfl rfl (cells_new _ _ _ _ (pre1 _ _ _ _)) (by simp [Value.oneCell']) (by unfold maxLen; omega) (by omega) (by simp; omega) ?_; intro v' w' hown' hgrow _))
  simp only [Exit.jump]
  go_ret2
  exact added_of HR.out (by unfold enc; rw [if_pos h1]; rfl) hown' hgrow
set_option maxRecDepth 100000 in
set_option maxHeartbeats 1000000 in
theorem add_two (r : Int) (w : World) (B : Nat) (hB : B ≤ w.heap.size) (v : Value) (n : Nat) (xs : List Int) (hown : w.ownsRow B 5 1 v n (xs.map (Value.int .u8))) (hn : n ≤ 1000000000000)
   (h0 : 128 ≤ r) (h1 : r ≤ 2047) :
    Calls Tryz.prog 152 #[v, .int .i64 r] w (Added w B v n xs r) := by
  obtain ⟨i0, hi, hz0, hz1, hz2⟩ := info_parts info_u8
  have hr := rsize_eq.2.1.2 ⟨h0, h1⟩
  have HZ := Lib.hid (size_any r)
  rw [hr] at HZ
  have HR := Lib.hid hr
  clear hr
  go_enter Tryz.func152, Tryz.ntmps152
  go_wp2_with fail
  refine wp_scope_ahead 0 rfl ?_
  go_wp2_with (first | (go_at_call 96; refine (HZ.out _).mono ?_; rintro e w' ⟨rfl, rfl⟩) | (go_at_call 163; refine (mark_any 2 _).mono ?_; rw [show markOf 2 = 192 from rfl]; rintro e w' ⟨rfl, rfl⟩) | (at_builtin; refine wpList_append_own _ rfl _ _ 88 rfl B 5 i0 (.int .u8 0) 1 1 Tryz.underlying88 hi hz0 hz1 hz2 rfl (by decide) _ _ _ rfl (hown.alloc _) ⟨w.heap.size, 0, none⟩ 2 4 [.int .u8 (192 + r / 64), .int .u8 (128 + r % 64)] rfl rfl (cells_new _ _ _ _ (pre2 _ _ _ _)) (by simp [Value.oneCell']) (by unfold maxLen; omega) (by omega) (by simp; omega) ?_; intro v' w' hown' hgrow _))
  simp only [Exit.jump]
  go_ret2
  exact added_of HR.out (by unfold enc; rw [if_neg (by omega), if_pos h1]; rfl) hown' hgrow
set_option maxRecDepth 100000 in
set_option maxHeartbeats 1000000 in
theorem add_three (r : Int) (w : World) (B : Nat) (hB : B ≤ w.heap.size) (v : Value) (n : Nat) (xs : List Int) (hown : w.ownsRow B 5 1 v n (xs.map (Value.int .u8))) (hn : n ≤ 1000000000000)
   (h0 : 2048 ≤ r) (h1 : r ≤ 65535) (h2 : r < 55296 ∨ 57343 < r) :
    Calls Tryz.prog 152 #[v, .int .i64 r] w (Added w B v n xs r) := by
  obtain ⟨i0, hi, hz0, hz1, hz2⟩ := info_parts info_u8
  have hr := rsize_eq.2.2.1.2 ⟨h0, h1, h2⟩
  have HZ := Lib.hid (size_any r)
  rw [hr] at HZ
  have HR := Lib.hid hr
  clear hr h2
  go_enter Tryz.func152, Tryz.ntmps152
  go_wp2_with fail
  refine wp_scope_ahead 0 rfl ?_
  go_wp2_with (first | (go_at_call 96; refine (HZ.out _).mono ?_; rintro e w' ⟨rfl, rfl⟩) | (go_at_call 163; refine (mark_any 3 _).mono ?_; rw [show markOf 3 = 224 from rfl]; rintro e w' ⟨rfl, rfl⟩) | (at_builtin; refine wpList_append_own _ rfl _ _ 88 rfl B 5 i0 (.int .u8 0) 1 1 Tryz.underlying88 hi hz0 hz1 hz2 rfl (by decide) _ _ _ rfl (hown.alloc _) ⟨w.heap.size, 0, none⟩ 3 4 [.int .u8 (224 + r / 64 / 64), .int .u8 (128 + r / 64 % 64), .int .u8 (128 + r % 64)] rfl rfl (cells_new _ _ _ _ (pre3 _ _ _ _)) (by simp [Value.oneCell']) (by unfold maxLen; omega) (by omega) (by simp; omega) ?_; intro v' w' hown' hgrow _))
  simp only [Exit.jump]
  go_ret2
  exact added_of HR.out (by unfold enc; rw [if_neg (by omega), if_neg (by omega), if_pos h1, show r / 64 / 64 = r / 4096 by omega]; rfl) hown' hgrow
set_option maxRecDepth 100000 in
set_option maxHeartbeats 1000000 in
theorem add_four (r : Int) (w : World) (B : Nat) (hB : B ≤ w.heap.size) (v : Value) (n : Nat) (xs : List Int) (hown : w.ownsRow B 5 1 v n (xs.map (Value.int .u8))) (hn : n ≤ 1000000000000)
   (h0 : 65536 ≤ r) (h1 : r ≤ 1114111) :
    Calls Tryz.prog 152 #[v, .int .i64 r] w (Added w B v n xs r) := by
  obtain ⟨i0, hi, hz0, hz1, hz2⟩ := info_parts info_u8
  have hr := rsize_eq.2.2.2.2 ⟨h0, h1⟩
  have HZ := Lib.hid (size_any r)
  rw [hr] at HZ
  have HR := Lib.hid hr
  clear hr
  go_enter Tryz.func152, Tryz.ntmps152
  go_wp2_with fail
  refine wp_scope_ahead 0 rfl ?_
  go_wp2_with (first | (go_at_call 96; refine (HZ.out _).mono ?_; rintro e w' ⟨rfl, rfl⟩) | (go_at_call 163; refine (mark_any 4 _).mono ?_; rw [show markOf 4 = 240 from rfl]; rintro e w' ⟨rfl, rfl⟩) | (at_builtin; refine wpList_append_own _ rfl _ _ 88 rfl B 5 i0 (.int .u8 0) 1 1 Tryz.underlying88 hi hz0 hz1 hz2 rfl (by decide) _ _ _ rfl (hown.alloc _) ⟨w.heap.size, 0, none⟩ 4 4 [.int .u8 (240 + r / 64 / 64 / 64), .int .u8 (128 + r / 64 / 64 % 64), .int .u8 (128 + r / 64 % 64), .int .u8 (128 + r % 64)] rfl rfl (cells_new _ _ _ _ (pre4 _ _ _ _)) (by simp [Value.oneCell']) (by unfold maxLen; omega) (by omega) (by simp; omega) ?_; intro v' w' hown' hgrow _))
  simp only [Exit.jump]
  go_ret2
  exact added_of HR.out (by unfold enc; rw [if_neg (by omega), if_neg (by omega), if_neg (by omega), show r / 64 / 64 = r / 4096 by omega, show r / 4096 / 64 = r / 262144 by omega]; rfl) hown' hgrow
set_option maxHeartbeats 400000 in
theorem add_none (r : Int) (w : World) (v : Value) (h : ¬ May r) :
    Calls Tryz.prog 152 #[v, .int .i64 r] w fun e w' => e = .returned (.tuple #[.slice none 0 0, .int .i64 2]) ∧ w' = w.alloc (.cells #[.int .u8 0, .int .u8 0, .int .u8 0, .int .u8 0] 184) := by
  have hr : rsize r = 0 := Nat.eq_zero_of_not_pos fun hp => h (rsize_pos.1 hp)
  have HZ := Lib.hid (size_any r)
  rw [hr] at HZ
  clear hr
  go_enter Tryz.func152, Tryz.ntmps152
  go_wp2_with fail
  refine wp_scope_ahead 0 rfl ?_
  go_wp2_with (go_at_call 96; refine (HZ.out _).mono ?_; rintro e w' ⟨rfl, rfl⟩)
  go_step3
  refine ⟨rfl, ?_⟩
  go_wp2
  try rw [Exit.noGoto_ret]
  go_ret2
  exact ⟨rfl, rfl⟩

theorem add_any (r : Int) (w : World) (B : Nat) (hB : B ≤ w.heap.size) (v : Value) (n : Nat) (xs : List Int) (hown : w.ownsRow B 5 1 v n (xs.map (Value.int .u8))) (hn : n ≤ 1000000000000) (h : May r) :
    Calls Tryz.prog 152 #[v, .int .i64 r] w (Added w B v n xs r) := by
  unfold May at h
  by_cases h1 : r ≤ 127
  · exact add_one r w B hB v n xs hown hn h.1 h1
  by_cases h2 : r ≤ 2047
  · exact add_two r w B hB v n xs hown hn (by omega) h2
  by_cases h3 : r ≤ 65535
  · exact add_three r w B hB v n xs hown hn (by omega) h3 h.2.2
  · exact add_four r w B hB v n xs hown hn (by omega) (by omega)

/-- What Put hands back: a row of its own with the rune's bytes. -/
def PutDone (w : World) (r : Int) (e : Ending) (w' : World) : Prop :=
  ∃ v', e = .returned (.tuple #[v', .int .i64 0]) ∧ w'.ownsRow w.heap.size 5 1 v' (rsize r) ((enc r).map (Value.int .u8)) ∧ Below w.heap.size w w'


set_option maxHeartbeats 400000 in
theorem put_any (r : Int) (w : World) (h : May r) : Calls Tryz.prog 143 #[.int .i64 r] w (PutDone w r) := by
  have HA := Lib.hid (add_any r w w.heap.size (Nat.le_refl _) (.slice none 0 0) 0 [] (World.ownsRow_nil _ _ _ _) (by omega) h)
  clear h
  go_enter Tryz.func143, Tryz.ntmps143
  go_wp2_with (go_at_call 152; refine HA.out.mono ?_; rintro e w' ⟨v', rfl, hown, hg⟩)
  go_ret2
  exact ⟨v', rfl, by simpa using hown, below_of_grown hg⟩

set_option maxHeartbeats 400000 in
theorem put_none (r : Int) (w : World) (h : ¬ May r) : Calls Tryz.prog 143 #[.int .i64 r] w fun e w' => e = .returned (.tuple #[.slice none 0 0, .int .i64 2]) ∧ Below w.heap.size w w' := by
  have HA := Lib.hid (add_none r w (.slice none 0 0) h)
  clear h
  go_enter Tryz.func143, Tryz.ntmps143
  go_wp2_with (go_at_call 152; refine HA.out.mono ?_; rintro e w' ⟨rfl, rfl⟩)
  go_ret2
  exact ⟨rfl, (Below.refl _ _).alloc (Nat.le_refl _) _⟩

end Go.Proofs.YtachijkjcbajmaaGreatDoor
/-
  STRINGS AND THEIR BYTES AS NUMBERS.
-/

namespace Go.Proofs.YtachijkjcbajmaaGreatDoor
open Go.RowKit
open Utf

theorem bs_extract (s : ByteArray) (a b : Nat) : bs (s.extract a b) = ((bs s).drop a).take (b - a) := by
  unfold bs
  rw [Lib.extract_data, List.map_take, List.map_drop]

theorem bs_inj {s t : ByteArray} (h : bs s = bs t) : s = t := by
  unfold bs at h
  have : s.data.toList = t.data.toList := by
    refine (List.map_inj_right ?_).1 h
    intro a b hab
    exact UInt8.toNat_inj.1 (by omega)
  apply ByteArray.ext
  exact Array.toList_inj.1 this

theorem bs_strOfNums {l : List Int} (hl : ∀ c ∈ l, IsByte c) : bs (strOfNums l) = l := by
  unfold bs
  rw [strOfNums_data, List.map_map]
  conv => rhs; rw [← List.map_id l]
  apply List.map_congr_left
  intro c hc
  have := hl c hc
  unfold IsByte at this
  simp
  omega

theorem toList_eq (s : ByteArray) : s.toList = s.data.toList := ByteArray.toList_eq s

/-- Two strings are compared as their bytes. -/
theorem str_beq (s t : ByteArray) : (s.toList == t.toList) = decide (bs s = bs t) := by
  rw [Bool.eq_iff_iff, beq_iff_eq, decide_eq_true_eq]
  constructor
  · intro h
    unfold bs
    rw [← toList_eq, ← toList_eq, h]
  · intro h; rw [bs_inj h]

theorem bs_getD (s : ByteArray) (k : Nat) (h : k < s.size) : (bs s).getD k 0 = (s[k].toNat : Int) := by
  rw [List.getD_eq_getElem?_getD, bs_get s k h]; rfl

theorem below_drewN (B : Nat) (w : World) (n : Nat) : Below B w (w.drewN n) := ⟨rfl, rfl, rfl, Nat.le_refl _, fun _ _ => rfl⟩

end Go.Proofs.YtachijkjcbajmaaGreatDoor
/-
  TERMS AND TRIPLES AS DATA.
-/

namespace Go.Proofs.YtachijkjcbajmaaGreatDoor
open Go.RowKit
open Utf
set_option linter.unusedVariables false

/-- A term's data: its kind, its text, what stands beside. -/
abbrev TermD := Int × ByteArray × ByteArray
abbrev termD (a : TermD) : Value := .agg #[.int .i64 a.1, .string a.2.1, .string a.2.2]
abbrev tripleV (a b c : TermD) : Value := .agg #[.int .i64 a.1, .string a.2.1, .string a.2.2, .int .i64 b.1, .string b.2.1, .string b.2.2, .int .i64 c.1, .string c.2.1, .string c.2.2]
theorem idx0 (a b c : TermD) (w : World) : (Instr.index 51 (tripleV a b c) (.int .i64 0)).run Tryz.prog w = .ok (termD a) w := by kernel_rfl
theorem idx1 (a b c : TermD) (w : World) : (Instr.index 51 (tripleV a b c) (.int .i64 1)).run Tryz.prog w = .ok (termD b) w := by kernel_rfl
theorem idx2 (a b c : TermD) (w : World) : (Instr.index 51 (tripleV a b c) (.int .i64 2)).run Tryz.prog w = .ok (termD c) w := by kernel_rfl

theorem below_new (w : World) (o : Obj) : Below w.heap.size w (w.alloc o) := (Below.refl _ _).alloc (Nat.le_refl _) _
theorem below_step {w u v : World} (h : Below w.heap.size w u) (k : Below u.heap.size u v) : Below w.heap.size w v := h.trans (k.mono h.size)
theorem cell_below {w u : World} {a : Addr} {v : Value} (h : Below w.heap.size w u) (hm : w.cell? a = some v) : u.cell? a = some v := (h.cell (World.block_lt_of_cell? _ _ hm)).trans hm

end Go.Proofs.YtachijkjcbajmaaGreatDoor
/-
  CONTRACTS OF Compare, Less, CompareTriples. Written by tools/gencompare.py.
-/

namespace Go.Proofs.YtachijkjcbajmaaGreatDoor
open Go.RowKit
open Utf Term
set_option linter.unusedVariables false
set_option linter.unusedSimpArgs false

theorem cmpD_kind {k k' : Int} (h : k ≠ k') (t x t' x' : ByteArray) : cmpD (k, t, x) (k', t', x') = cmpI k k' := by
  have : cmpI k k' ≠ 0 := fun e => h (ord_int.of_eq e)
  unfold cmpD Term.Ord.lex
  rw [if_neg this]
theorem cmpD_same (k : Int) (t x t' x' : ByteArray) : cmpD (k, t, x) (k, t', x') = if cmpB t t' = 0 then cmpB x x' else cmpB t t' := by
  unfold cmpD Term.Ord.lex
  rw [if_pos (ord_int.refl _)]

theorem box2_start (w : World) (a0 a1 a2 b0 b1 b2 : TermD) : (fun W' => W'.cell? ⟨w.heap.size, 0, none⟩ = some (.int .i64 a0.1) ∧ W'.cell? ⟨w.heap.size, 1, none⟩ = some (.string a0.2.1) ∧ W'.cell? ⟨w.heap.size, 2, none⟩ = some (.string a0.2.2) ∧ W'.cell? ⟨w.heap.size, 3, none⟩ = some (.int .i64 a1.1) ∧ W'.cell? ⟨w.heap.size, 4, none⟩ = some (.string a1.2.1) ∧ W'.cell? ⟨w.heap.size, 5, none⟩ = some (.string a1.2.2) ∧ W'.cell? ⟨w.heap.size, 6, none⟩ = some (.int .i64 a2.1) ∧ W'.cell? ⟨w.heap.size, 7, none⟩ = some (.string a2.2.1) ∧ W'.cell? ⟨w.heap.size, 8, none⟩ = some (.string a2.2.2) ∧ W'.cell? ⟨w.heap.size + 1, 0, none⟩ = some (.int .i64 b0.1) ∧ W'.cell? ⟨w.heap.size + 1, 1, none⟩ = some (.string b0.2.1) ∧ W'.cell? ⟨w.heap.size + 1, 2, none⟩ = some (.string b0.2.2) ∧ W'.cell? ⟨w.heap.size + 1, 3, none⟩ = some (.int .i64 b1.1) ∧ W'.cell? ⟨w.heap.size + 1, 4, none⟩ = some (.string b1.2.1) ∧ W'.cell? ⟨w.heap.size + 1, 5, none⟩ = some (.string b1.2.2) ∧ W'.cell? ⟨w.heap.size + 1, 6, none⟩ = some (.int .i64 b2.1) ∧ W'.cell? ⟨w.heap.size + 1, 7, none⟩ = some (.string b2.2.1) ∧ W'.cell? ⟨w.heap.size + 1, 8, none⟩ = some (.string b2.2.2) ∧ Below w.heap.size w W') ((w.alloc (.cells #[.int .i64 a0.1, .string a0.2.1, .string a0.2.2, .int .i64 a1.1, .string a1.2.1, .string a1.2.2, .int .i64 a2.1, .string a2.2.1, .string a2.2.2] 51)).alloc (.cells #[.int .i64 b0.1, .string b0.2.1, .string b0.2.2, .int .i64 b1.1, .string b1.2.1, .string b1.2.2, .int .i64 b2.1, .string b2.2.1, .string b2.2.2] 51)) := by
  have hB : Below w.heap.size w ((w.alloc (.cells #[.int .i64 a0.1, .string a0.2.1, .string a0.2.2, .int .i64 a1.1, .string a1.2.1, .string a1.2.2, .int .i64 a2.1, .string a2.2.1, .string a2.2.2] 51)).alloc (.cells #[.int .i64 b0.1, .string b0.2.1, .string b0.2.2, .int .i64 b1.1, .string b1.2.1, .string b1.2.2, .int .i64 b2.1, .string b2.2.1, .string b2.2.2] 51)) := below_step (below_new _ _) (below_new _ _)
  have h1 : ∀ o v, (w.alloc (.cells #[.int .i64 a0.1, .string a0.2.1, .string a0.2.2, .int .i64 a1.1, .string a1.2.1, .string a1.2.2, .int .i64 a2.1, .string a2.2.1, .string a2.2.2] 51)).cell? ⟨w.heap.size, o, none⟩ = v → ((w.alloc (.cells #[.int .i64 a0.1, .string a0.2.1, .string a0.2.2, .int .i64 a1.1, .string a1.2.1, .string a1.2.2, .int .i64 a2.1, .string a2.2.1, .string a2.2.2] 51)).alloc (.cells #[.int .i64 b0.1, .string b0.2.1, .string b0.2.2, .int .i64 b1.1, .string b1.2.1, .string b1.2.2, .int .i64 b2.1, .string b2.2.1, .string b2.2.2] 51)).cell? ⟨w.heap.size, o, none⟩ = v := fun o v e => by
    have := (below_new (w.alloc (.cells #[.int .i64 a0.1, .string a0.2.1, .string a0.2.2, .int .i64 a1.1, .string a1.2.1, .string a1.2.2, .int .i64 a2.1, .string a2.2.1, .string a2.2.2] 51)) (.cells #[.int .i64 b0.1, .string b0.2.1, .string b0.2.2, .int .i64 b1.1, .string b1.2.1, .string b1.2.2, .int .i64 b2.1, .string b2.2.1, .string b2.2.2] 51)).cell (p := ⟨w.heap.size, o, none⟩) (by simp)
    rw [this, e]
  have hsz : (w.alloc (.cells #[.int .i64 a0.1, .string a0.2.1, .string a0.2.2, .int .i64 a1.1, .string a1.2.1, .string a1.2.2, .int .i64 a2.1, .string a2.2.1, .string a2.2.2] 51)).heap.size = w.heap.size + 1 := by simp
  refine ⟨h1 0 _ ?_, h1 1 _ ?_, h1 2 _ ?_, h1 3 _ ?_, h1 4 _ ?_, h1 5 _ ?_, h1 6 _ ?_, h1 7 _ ?_, h1 8 _ ?_, ?_, ?_, ?_, ?_, ?_, ?_, ?_, ?_, ?_, hB⟩
  all_goals
    first | (rw [World.cell?_alloc_at _ _ _ _ rfl]; rfl) | (rw [World.cell?_alloc_at _ _ _ _ hsz.symm]; rfl)
theorem box2_step {w u v : World} {a0 a1 a2 b0 b1 b2 : TermD} (h : (fun W' => W'.cell? ⟨w.heap.size, 0, none⟩ = some (.int .i64 a0.1) ∧ W'.cell? ⟨w.heap.size, 1, none⟩ = some (.string a0.2.1) ∧ W'.cell? ⟨w.heap.size, 2, none⟩ = some (.string a0.2.2) ∧ W'.cell? ⟨w.heap.size, 3, none⟩ = some (.int .i64 a1.1) ∧ W'.cell? ⟨w.heap.size, 4, none⟩ = some (.string a1.2.1) ∧ W'.cell? ⟨w.heap.size, 5, none⟩ = some (.string a1.2.2) ∧ W'.cell? ⟨w.heap.size, 6, none⟩ = some (.int .i64 a2.1) ∧ W'.cell? ⟨w.heap.size, 7, none⟩ = some (.string a2.2.1) ∧ W'.cell? ⟨w.heap.size, 8, none⟩ = some (.string a2.2.2) ∧ W'.cell? ⟨w.heap.size + 1, 0, none⟩ = some (.int .i64 b0.1) ∧ W'.cell? ⟨w.heap.size + 1, 1, none⟩ = some (.string b0.2.1) ∧ W'.cell? ⟨w.heap.size + 1, 2, none⟩ = some (.string b0.2.2) ∧ W'.cell? ⟨w.heap.size + 1, 3, none⟩ = some (.int .i64 b1.1) ∧ W'.cell? ⟨w.heap.size + 1, 4, none⟩ = some (.string b1.2.1) ∧ W'.cell? ⟨w.heap.size + 1, 5, none⟩ = some (.string b1.2.2) ∧ W'.cell? ⟨w.heap.size + 1, 6, none⟩ = some (.int .i64 b2.1) ∧ W'.cell? ⟨w.heap.size + 1, 7, none⟩ = some (.string b2.2.1) ∧ W'.cell? ⟨w.heap.size + 1, 8, none⟩ = some (.string b2.2.2) ∧ Below w.heap.size w W') u) (k : Below u.heap.size u v) : (fun W' => W'.cell? ⟨w.heap.size, 0, none⟩ = some (.int .i64 a0.1) ∧ W'.cell? ⟨w.heap.size, 1, none⟩ = some (.string a0.2.1) ∧ W'.cell? ⟨w.heap.size, 2, none⟩ = some (.string a0.2.2) ∧ W'.cell? ⟨w.heap.size, 3, none⟩ = some (.int .i64 a1.1) ∧ W'.cell? ⟨w.heap.size, 4, none⟩ = some (.string a1.2.1) ∧ W'.cell? ⟨w.heap.size, 5, none⟩ = some (.string a1.2.2) ∧ W'.cell? ⟨w.heap.size, 6, none⟩ = some (.int .i64 a2.1) ∧ W'.cell? ⟨w.heap.size, 7, none⟩ = some (.string a2.2.1) ∧ W'.cell? ⟨w.heap.size, 8, none⟩ = some (.string a2.2.2) ∧ W'.cell? ⟨w.heap.size + 1, 0, none⟩ = some (.int .i64 b0.1) ∧ W'.cell? ⟨w.heap.size + 1, 1, none⟩ = some (.string b0.2.1) ∧ W'.cell? ⟨w.heap.size + 1, 2, none⟩ = some (.string b0.2.2) ∧ W'.cell? ⟨w.heap.size + 1, 3, none⟩ = some (.int .i64 b1.1) ∧ W'.cell? ⟨w.heap.size + 1, 4, none⟩ = some (.string b1.2.1) ∧ W'.cell? ⟨w.heap.size + 1, 5, none⟩ = some (.string b1.2.2) ∧ W'.cell? ⟨w.heap.size + 1, 6, none⟩ = some (.int .i64 b2.1) ∧ W'.cell? ⟨w.heap.size + 1, 7, none⟩ = some (.string b2.2.1) ∧ W'.cell? ⟨w.heap.size + 1, 8, none⟩ = some (.string b2.2.2) ∧ Below w.heap.size w W') v := by
  obtain ⟨h0, h1, h2, h3, h4, h5, h6, h7, h8, h9, h10, h11, h12, h13, h14, h15, h16, h17, hB⟩ := h
  exact ⟨cell_below k h0, cell_below k h1, cell_below k h2, cell_below k h3, cell_below k h4, cell_below k h5, cell_below k h6, cell_below k h7, cell_below k h8, cell_below k h9, cell_below k h10, cell_below k h11, cell_below k h12, cell_below k h13, cell_below k h14, cell_below k h15, cell_below k h16, cell_below k h17, below_step hB k⟩
theorem box2_drew {w u : World} {a0 a1 a2 b0 b1 b2 : TermD} (h : (fun W' => W'.cell? ⟨w.heap.size, 0, none⟩ = some (.int .i64 a0.1) ∧ W'.cell? ⟨w.heap.size, 1, none⟩ = some (.string a0.2.1) ∧ W'.cell? ⟨w.heap.size, 2, none⟩ = some (.string a0.2.2) ∧ W'.cell? ⟨w.heap.size, 3, none⟩ = some (.int .i64 a1.1) ∧ W'.cell? ⟨w.heap.size, 4, none⟩ = some (.string a1.2.1) ∧ W'.cell? ⟨w.heap.size, 5, none⟩ = some (.string a1.2.2) ∧ W'.cell? ⟨w.heap.size, 6, none⟩ = some (.int .i64 a2.1) ∧ W'.cell? ⟨w.heap.size, 7, none⟩ = some (.string a2.2.1) ∧ W'.cell? ⟨w.heap.size, 8, none⟩ = some (.string a2.2.2) ∧ W'.cell? ⟨w.heap.size + 1, 0, none⟩ = some (.int .i64 b0.1) ∧ W'.cell? ⟨w.heap.size + 1, 1, none⟩ = some (.string b0.2.1) ∧ W'.cell? ⟨w.heap.size + 1, 2, none⟩ = some (.string b0.2.2) ∧ W'.cell? ⟨w.heap.size + 1, 3, none⟩ = some (.int .i64 b1.1) ∧ W'.cell? ⟨w.heap.size + 1, 4, none⟩ = some (.string b1.2.1) ∧ W'.cell? ⟨w.heap.size + 1, 5, none⟩ = some (.string b1.2.2) ∧ W'.cell? ⟨w.heap.size + 1, 6, none⟩ = some (.int .i64 b2.1) ∧ W'.cell? ⟨w.heap.size + 1, 7, none⟩ = some (.string b2.2.1) ∧ W'.cell? ⟨w.heap.size + 1, 8, none⟩ = some (.string b2.2.2) ∧ Below w.heap.size w W') u) : (fun W' => W'.cell? ⟨w.heap.size, 0, none⟩ = some (.int .i64 a0.1) ∧ W'.cell? ⟨w.heap.size, 1, none⟩ = some (.string a0.2.1) ∧ W'.cell? ⟨w.heap.size, 2, none⟩ = some (.string a0.2.2) ∧ W'.cell? ⟨w.heap.size, 3, none⟩ = some (.int .i64 a1.1) ∧ W'.cell? ⟨w.heap.size, 4, none⟩ = some (.string a1.2.1) ∧ W'.cell? ⟨w.heap.size, 5, none⟩ = some (.string a1.2.2) ∧ W'.cell? ⟨w.heap.size, 6, none⟩ = some (.int .i64 a2.1) ∧ W'.cell? ⟨w.heap.size, 7, none⟩ = some (.string a2.2.1) ∧ W'.cell? ⟨w.heap.size, 8, none⟩ = some (.string a2.2.2) ∧ W'.cell? ⟨w.heap.size + 1, 0, none⟩ = some (.int .i64 b0.1) ∧ W'.cell? ⟨w.heap.size + 1, 1, none⟩ = some (.string b0.2.1) ∧ W'.cell? ⟨w.heap.size + 1, 2, none⟩ = some (.string b0.2.2) ∧ W'.cell? ⟨w.heap.size + 1, 3, none⟩ = some (.int .i64 b1.1) ∧ W'.cell? ⟨w.heap.size + 1, 4, none⟩ = some (.string b1.2.1) ∧ W'.cell? ⟨w.heap.size + 1, 5, none⟩ = some (.string b1.2.2) ∧ W'.cell? ⟨w.heap.size + 1, 6, none⟩ = some (.int .i64 b2.1) ∧ W'.cell? ⟨w.heap.size + 1, 7, none⟩ = some (.string b2.2.1) ∧ W'.cell? ⟨w.heap.size + 1, 8, none⟩ = some (.string b2.2.2) ∧ Below w.heap.size w W') u.drew := by
  obtain ⟨h0, h1, h2, h3, h4, h5, h6, h7, h8, h9, h10, h11, h12, h13, h14, h15, h16, h17, hB⟩ := h
  exact ⟨h0, h1, h2, h3, h4, h5, h6, h7, h8, h9, h10, h11, h12, h13, h14, h15, h16, h17, hB.drew⟩
theorem box2_below {w u : World} {a0 a1 a2 b0 b1 b2 : TermD} (h : (fun W' => W'.cell? ⟨w.heap.size, 0, none⟩ = some (.int .i64 a0.1) ∧ W'.cell? ⟨w.heap.size, 1, none⟩ = some (.string a0.2.1) ∧ W'.cell? ⟨w.heap.size, 2, none⟩ = some (.string a0.2.2) ∧ W'.cell? ⟨w.heap.size, 3, none⟩ = some (.int .i64 a1.1) ∧ W'.cell? ⟨w.heap.size, 4, none⟩ = some (.string a1.2.1) ∧ W'.cell? ⟨w.heap.size, 5, none⟩ = some (.string a1.2.2) ∧ W'.cell? ⟨w.heap.size, 6, none⟩ = some (.int .i64 a2.1) ∧ W'.cell? ⟨w.heap.size, 7, none⟩ = some (.string a2.2.1) ∧ W'.cell? ⟨w.heap.size, 8, none⟩ = some (.string a2.2.2) ∧ W'.cell? ⟨w.heap.size + 1, 0, none⟩ = some (.int .i64 b0.1) ∧ W'.cell? ⟨w.heap.size + 1, 1, none⟩ = some (.string b0.2.1) ∧ W'.cell? ⟨w.heap.size + 1, 2, none⟩ = some (.string b0.2.2) ∧ W'.cell? ⟨w.heap.size + 1, 3, none⟩ = some (.int .i64 b1.1) ∧ W'.cell? ⟨w.heap.size + 1, 4, none⟩ = some (.string b1.2.1) ∧ W'.cell? ⟨w.heap.size + 1, 5, none⟩ = some (.string b1.2.2) ∧ W'.cell? ⟨w.heap.size + 1, 6, none⟩ = some (.int .i64 b2.1) ∧ W'.cell? ⟨w.heap.size + 1, 7, none⟩ = some (.string b2.2.1) ∧ W'.cell? ⟨w.heap.size + 1, 8, none⟩ = some (.string b2.2.2) ∧ Below w.heap.size w W') u) : Below w.heap.size w u := h.2.2.2.2.2.2.2.2.2.2.2.2.2.2.2.2.2.2


end Go.Proofs.YtachijkjcbajmaaGreatDoor
/-
  '==' OF TERMS AND OF TRIPLES.
-/

namespace Go.Proofs.YtachijkjcbajmaaGreatDoor
open Go.RowKit
open Utf Term
set_option linter.unusedVariables false
set_option linter.unusedSimpArgs false
set_option maxRecDepth 100000

theorem bytes_toList {s t : ByteArray} : s.toList = t.toList ↔ s = t := by
  constructor
  · intro h
    rw [ByteArray.toList_eq, ByteArray.toList_eq] at h
    exact ByteArray.ext (Array.toList_inj.1 h)
  · rintro rfl; rfl

theorem term_eqIn (a b : TermD) (w : World) : (Op.equalIn 9999 31 (termD a) (termD b)).run Tryz.prog w = .ok (decide (a = b)) w := by
  obtain ⟨k, t, x⟩ := a
  obtain ⟨k', t', x'⟩ := b
  go_simp
  simp only [bytes_toList, Prod.mk.injEq]
  by_cases h1 : k = k' <;> by_cases h2 : t = t' <;> by_cases h3 : x = x' <;> simp [h1, h2, h3]

theorem term_eql (a b : TermD) (w : World) : (binOp .eql 31 (.agg #[.int .i64 a.1, .string a.2.1, .string a.2.2]) (.agg #[.int .i64 b.1, .string b.2.1, .string b.2.2])).run Tryz.prog w = .ok (.bool (decide (a = b))) w := by
  obtain ⟨k, t, x⟩ := a
  obtain ⟨k', t', x'⟩ := b
  go_simp
  simp only [bytes_toList]
  by_cases h1 : k = k' <;> by_cases h2 : t = t' <;> by_cases h3 : x = x' <;> simp [h1, h2, h3]

theorem part0 (a b c : TermD) (w : World) : (part 31 #[.int .i64 a.1, .string a.2.1, .string a.2.2, .int .i64 b.1, .string b.2.1, .string b.2.2, .int .i64 c.1, .string c.2.1, .string c.2.2] 0).run Tryz.prog w = .ok (termD a) w := by kernel_rfl
theorem part1 (a b c : TermD) (w : World) : (part 31 #[.int .i64 a.1, .string a.2.1, .string a.2.2, .int .i64 b.1, .string b.2.1, .string b.2.2, .int .i64 c.1, .string c.2.1, .string c.2.2] 3).run Tryz.prog w = .ok (termD b) w := by kernel_rfl
theorem part2 (a b c : TermD) (w : World) : (part 31 #[.int .i64 a.1, .string a.2.1, .string a.2.2, .int .i64 b.1, .string b.2.1, .string b.2.2, .int .i64 c.1, .string c.2.1, .string c.2.2] 6).run Tryz.prog w = .ok (termD c) w := by kernel_rfl

theorem triple_eql (a b c a' b' c' : TermD) (w : World) :
    (binOp .eql 51 (.agg #[.int .i64 a.1, .string a.2.1, .string a.2.2, .int .i64 b.1, .string b.2.1, .string b.2.2, .int .i64 c.1, .string c.2.1, .string c.2.2]) (.agg #[.int .i64 a'.1, .string a'.2.1, .string a'.2.2, .int .i64 b'.1, .string b'.2.1, .string b'.2.2, .int .i64 c'.1, .string c'.2.1, .string c'.2.2])).run Tryz.prog w
      = .ok (.bool (decide (a = a' ∧ b = b' ∧ c = c'))) w := by
  obtain ⟨i, hi⟩ : ∃ i, Tryz.prog.info? 31 = some i := Option.isSome_iff_exists.1 (by kernel_rfl)
  have hc : Tryz.prog.cellsOf 31 = 3 := by kernel_rfl
  have hr : List.range 3 = [0, 1, 2] := rfl
  rw [run_eql_struct, run_equalIn_array (w := w) 9999 _ _ Tryz.underlying51 hi, hc, hr]
  simp only [Op.eqItems, Sem.run_bind, Nat.zero_mul, Nat.one_mul, Nat.reduceMul, part0, part1, part2, Result.andThen_ok, term_eqIn]
  by_cases h1 : a = a'
  · by_cases h2 : b = b'
    · by_cases h3 : c = c'
      · simp [h1, h2, h3, part1, part2, term_eqIn]
      · simp [h1, h2, h3, part1, part2, term_eqIn]
    · simp [h1, h2, part1, part2, term_eqIn]
  · simp [h1]
end Go.Proofs.YtachijkjcbajmaaGreatDoor
/-
  ROWS OF TRIPLES IN MEMORY. CONTRACT OF has.
-/

namespace Go.Proofs.YtachijkjcbajmaaGreatDoor
open Go.RowKit
open Utf Term
set_option linter.unusedVariables false
set_option linter.unusedSimpArgs false

/-- A triple's data. -/
abbrev TripD := TermD × TermD × TermD
def encT (x : TripD) : List Value := [.int .i64 x.1.1, .string x.1.2.1, .string x.1.2.2, .int .i64 x.2.1.1, .string x.2.1.2.1, .string x.2.1.2.2, .int .i64 x.2.2.1, .string x.2.2.2.1, .string x.2.2.2.2]
theorem encT_length (x : TripD) : (encT x).length = 9 := rfl
theorem encT_one (x : TripD) : ∀ u ∈ encT x, u.oneCell' = true := by
  intro u hu
  simp only [encT, List.mem_cons, List.not_mem_nil, or_false] at hu
  rcases hu with rfl | rfl | rfl | rfl | rfl | rfl | rfl | rfl | rfl <;> rfl
/-- The cells of some triples. -/
def cellsT (ds : List TripD) : List Value := ds.flatMap encT
theorem cellsT_nil : cellsT [] = [] := rfl
theorem cellsT_cons (x : TripD) (ds : List TripD) : cellsT (x :: ds) = encT x ++ cellsT ds := rfl
theorem cellsT_append (ds es : List TripD) : cellsT (ds ++ es) = cellsT ds ++ cellsT es := by unfold cellsT; rw [List.flatMap_append]
theorem cellsT_length : ∀ ds : List TripD, (cellsT ds).length = ds.length * 9
  | [] => rfl
  | x :: ds => by rw [cellsT_cons, List.length_append, cellsT_length ds, encT_length, List.length_cons]; omega
theorem cellsT_get : ∀ (ds : List TripD) (p c : Nat) (x : TripD), ds[p]? = some x → c < 9 → (cellsT ds)[p * 9 + c]? = (encT x)[c]?
  | [], _, _, _, h, _ => by simp at h
  | y :: ds, 0, c, x, h, hc => by
    rw [List.getElem?_cons_zero, Option.some.injEq] at h
    subst h
    rw [cellsT_cons, List.getElem?_append_left (by rw [encT_length]; omega)]
    simp
  | y :: ds, p + 1, c, x, h, hc => by
    rw [List.getElem?_cons_succ] at h
    rw [cellsT_cons, List.getElem?_append_right (by rw [encT_length]; omega), encT_length, show (p + 1) * 9 + c - 9 = p * 9 + c by omega]
    exact cellsT_get ds p c x h hc
theorem cellsT_one (ds : List TripD) : ∀ u ∈ cellsT ds, u.oneCell' = true := by
  intro u hu
  obtain ⟨x, _, hx⟩ := List.mem_flatMap.1 hu
  exact encT_one x u hx
theorem cellsT_take : ∀ (ds : List TripD) (n : Nat), (cellsT ds).take (n * 9) = cellsT (ds.take n)
  | [], n => by simp [cellsT]
  | x :: ds, 0 => by simp [cellsT]
  | x :: ds, n + 1 => by
    rw [List.take_succ_cons, cellsT_cons, cellsT_cons, List.take_append, encT_length, List.take_of_length_le (by rw [encT_length]; omega), show (n + 1) * 9 - 9 = n * 9 by omega, cellsT_take ds n]
theorem cellsT_drop : ∀ (ds : List TripD) (n : Nat), (cellsT ds).drop (n * 9) = cellsT (ds.drop n)
  | [], n => by simp [cellsT]
  | x :: ds, 0 => by simp [cellsT]
  | x :: ds, n + 1 => by
    rw [List.drop_succ_cons, cellsT_cons, List.drop_append, encT_length, List.drop_of_length_le (by rw [encT_length]; omega), show (n + 1) * 9 - 9 = n * 9 by omega, cellsT_drop ds n, List.nil_append]

/-- Cells in a row. -/
def RowC (W : World) (b off : Nat) (cs : List Value) : Prop := ∀ j u, cs[j]? = some u → W.cell? ⟨b, off + j, none⟩ = some u
theorem RowC.below {W W' : World} {b off : Nat} {cs : List Value} (h : RowC W b off cs) (k : Below W.heap.size W W') : RowC W' b off cs := fun j u e => cell_below k (h j u e)
theorem RowC.drewN {W : World} {b off : Nat} {cs : List Value} (h : RowC W b off cs) (q : Nat) : RowC (W.drewN q) b off cs := h
/-- A triple at a place. -/
structure Nine (W : World) (b o : Nat) (x : TripD) : Prop where
  c0 : W.cell? ⟨b, o, none⟩ = some (.int .i64 x.1.1)
  c1 : W.cell? ⟨b, o + 1, none⟩ = some (.string x.1.2.1)
  c2 : W.cell? ⟨b, o + 2, none⟩ = some (.string x.1.2.2)
  c3 : W.cell? ⟨b, o + 3, none⟩ = some (.int .i64 x.2.1.1)
  c4 : W.cell? ⟨b, o + 4, none⟩ = some (.string x.2.1.2.1)
  c5 : W.cell? ⟨b, o + 5, none⟩ = some (.string x.2.1.2.2)
  c6 : W.cell? ⟨b, o + 6, none⟩ = some (.int .i64 x.2.2.1)
  c7 : W.cell? ⟨b, o + 7, none⟩ = some (.string x.2.2.2.1)
  c8 : W.cell? ⟨b, o + 8, none⟩ = some (.string x.2.2.2.2)
theorem RowC.nine {W : World} {b off : Nat} {ds : List TripD} (h : RowC W b off (cellsT ds)) {p : Nat} {x : TripD} (hx : ds[p]? = some x) : Nine W b (off + p * 9) x := by
  have g : ∀ c u, c < 9 → (encT x)[c]? = some u → W.cell? ⟨b, off + p * 9 + c, none⟩ = some u := fun c u hc hu => by
    have := h (p * 9 + c) u ((cellsT_get ds p c x hx hc).trans hu)
    rwa [← Nat.add_assoc] at this
  exact ⟨g 0 _ (by omega) rfl, g 1 _ (by omega) rfl, g 2 _ (by omega) rfl, g 3 _ (by omega) rfl, g 4 _ (by omega) rfl, g 5 _ (by omega) rfl, g 6 _ (by omega) rfl, g 7 _ (by omega) rfl, g 8 _ (by omega) rfl⟩
theorem Nine.below {W W' : World} {b o : Nat} {x : TripD} (h : Nine W b o x) (k : Below W.heap.size W W') : Nine W' b o x :=
  ⟨cell_below k h.c0, cell_below k h.c1, cell_below k h.c2, cell_below k h.c3, cell_below k h.c4, cell_below k h.c5, cell_below k h.c6, cell_below k h.c7, cell_below k h.c8⟩

/-- A slice of triples. -/
def SliceT (W : World) (v : Value) (ds : List TripD) : Prop :=
  (v = .slice none 0 0 ∧ ds = []) ∨ ∃ b off cap, v = .slice (some ⟨b, off, none⟩) ds.length cap ∧ ds.length ≤ cap ∧ cap ≤ maxLen ∧ RowC W b off (cellsT ds)
theorem SliceT.below {W W' : World} {v : Value} {ds : List TripD} (h : SliceT W v ds) (k : Below W.heap.size W W') : SliceT W' v ds := by
  rcases h with h | ⟨b, off, cap, h1, h2, h3, h4⟩
  · exact .inl h
  · exact .inr ⟨b, off, cap, h1, h2, h3, h4.below k⟩
/-- '==' of two triples. -/
theorem trip_eql (x y : TripD) (w : World) : (binOp .eql 51 (tripleV x.1 x.2.1 x.2.2) (tripleV y.1 y.2.1 y.2.2)).run Tryz.prog w = .ok (.bool (decide (x = y))) w := by
  rw [triple_eql]
  congr 2
  simp [Prod.ext_iff]

end Go.Proofs.YtachijkjcbajmaaGreatDoor
/-
  ROWS OF TRIPLES THAT THE CALL ITSELF MADE: stores, cuts, what is read.
-/

namespace Go.Proofs.YtachijkjcbajmaaGreatDoor
open Go.RowKit
open Utf Term
set_option linter.unusedVariables false
set_option linter.unusedSimpArgs false

/-- Stores into a list, one behind the other. -/
def setL (xs : List Value) : Nat → List Value → List Value
  | _, [] => xs
  | s, u :: r => setL (xs.set s u) (s + 1) r
theorem setL_length : ∀ (us : List Value) (s : Nat) (xs : List Value), (setL xs s us).length = xs.length
  | [], _, _ => rfl
  | u :: r, s, xs => by rw [setL, setL_length r, List.length_set]
theorem setL_get : ∀ (us : List Value) (s : Nat) (xs : List Value) (t : Nat), s + us.length ≤ xs.length → (setL xs s us)[t]? = if s ≤ t ∧ t < s + us.length then us[t - s]? else xs[t]?
  | [], s, xs, t, _ => by rw [setL, if_neg (by simp only [List.length_nil]; omega)]
  | u :: r, s, xs, t, h => by
    have hl : s + (r.length + 1) ≤ xs.length := by simpa using h
    rw [setL, setL_get r (s + 1) _ t (by rw [List.length_set]; omega)]
    simp only [List.length_cons]
    by_cases e : t = s
    · subst e
      rw [if_neg (by omega), if_pos (by omega), Nat.sub_self, List.getElem?_set_self (by omega)]
      rfl
    · by_cases c : s + 1 ≤ t ∧ t < s + 1 + r.length
      · rw [if_pos c, if_pos (by omega), show t - s = (t - (s + 1)) + 1 by omega, List.getElem?_cons_succ]
      · rw [if_neg c, if_neg (by omega), List.getElem?_set_ne (by omega)]
theorem cellsT_none {ds : List TripD} {t : Nat} (h : ds.length * 9 ≤ t) : (cellsT ds)[t]? = none := List.getElem?_eq_none (by rw [cellsT_length]; exact h)
theorem cellsT_set {ds : List TripD} {p : Nat} (hp : p < ds.length) (x : TripD) : setL (cellsT ds) (p * 9) (encT x) = cellsT (ds.set p x) := by
  apply List.ext_getElem?
  intro t
  rw [setL_get _ _ _ _ (by rw [encT_length, cellsT_length]; omega), encT_length]
  by_cases ht : t < ds.length * 9
  · obtain ⟨q, c, rfl, hc⟩ : ∃ q c, t = q * 9 + c ∧ c < 9 := ⟨t / 9, t % 9, by omega, by omega⟩
    obtain ⟨y, hy⟩ : ∃ y, ds[q]? = some y := ⟨_, List.getElem?_eq_getElem (by omega)⟩
    by_cases e : q = p
    · subst e
      rw [if_pos (by omega), cellsT_get _ _ _ _ (List.getElem?_set_self hp) hc, show q * 9 + c - q * 9 = c by omega]
    · rw [if_neg (by omega), cellsT_get _ _ _ _ hy hc, cellsT_get _ _ _ _ ((List.getElem?_set_ne (Ne.symm e)).trans hy) hc]
  · rw [if_neg (by omega), cellsT_none (by omega), cellsT_none (by rw [List.length_set]; omega)]

section
variable {w : World} {base : Nat} {e : TypeId} {size g cap n : Nat} {xs : List Value}
theorem owns_setCells : ∀ (us : List Value) (s : Nat) (w : World) (xs : List Value), w.ownsRow base e size (.slice (some ⟨g, 0, none⟩) n cap) n xs →
    (w.setCells g s us).ownsRow base e size (.slice (some ⟨g, 0, none⟩) n cap) n (setL xs s us)
  | [], _, _, _, h => h
  | u :: r, s, w, xs, h => owns_setCells r (s + 1) _ _ (h.stored s u).1
/-- A shorter part from the beginning. -/
theorem owns_cut (h : w.ownsRow base e size (.slice (some ⟨g, 0, none⟩) n cap) n xs) {m : Nat} (hm : m ≤ n) : w.ownsRow base e size (.slice (some ⟨g, 0, none⟩) m cap) m (xs.take (m * size)) := by
  have hmn : m * size ≤ n * size := Nat.mul_le_mul_right _ hm
  refine ⟨by rw [List.length_take, h.1]; omega, .inr ?_⟩
  rcases h.2 with ⟨h', _⟩ | ⟨g', cap', cur, h', hb, hg, hnc, hcm, hcs, htake⟩
  · simp at h'
  · simp only [Value.slice.injEq, Option.some.injEq, Addr.mk.injEq, and_true, true_and] at h'
    obtain ⟨rfl, rfl⟩ := h'
    refine ⟨g, cap, cur, rfl, hb, hg, by omega, hcm, hcs, ?_⟩
    rw [← htake, List.take_take, Nat.min_eq_left hmn]
theorem owns_row (h : w.ownsRow base e size (.slice (some ⟨g, 0, none⟩) n cap) n xs) : RowC w g 0 xs := fun j u hu => by
  have hj : j < n * size := by have := (List.getElem?_eq_some_iff.1 hu).1; rwa [h.1] at this
  rw [Nat.zero_add, h.cellAt j hj, hu]
theorem owns_caps (h : w.ownsRow base e size (.slice (some ⟨g, 0, none⟩) n cap) n xs) : n ≤ cap ∧ cap ≤ maxLen ∧ base ≤ g ∧ g < w.heap.size := by
  rcases h.2 with ⟨h', _⟩ | ⟨g', cap', cur, h', hb, hg, hnc, hcm, hcs, htake⟩
  · simp at h'
  · simp only [Value.slice.injEq, Option.some.injEq, Addr.mk.injEq, and_true, true_and] at h'
    obtain ⟨rfl, rfl⟩ := h'
    exact ⟨hnc, hcm, hb, (Array.getElem?_eq_some_iff.1 hg).1⟩
theorem owns_below {w' : World} (h : w.ownsRow base e size (.slice (some ⟨g, 0, none⟩) n cap) n xs) (k : Below w.heap.size w w') : w'.ownsRow base e size (.slice (some ⟨g, 0, none⟩) n cap) n xs := by
  have hg := (owns_caps h).2.2.2
  refine ⟨h.1, ?_⟩
  rcases h.2 with ⟨h', _⟩ | ⟨g', cap', cur, h', hb, hg', r⟩
  · exact .inl ⟨h', ‹_›⟩
  · refine .inr ⟨g', cap', cur, h', hb, ?_, r⟩
    have e1 : g' = g := by
      simp only [Value.slice.injEq, Option.some.injEq, Addr.mk.injEq, and_true, true_and] at h'
      exact h'.1.symm
    rw [e1] at hg' ⊢
    rw [← hg']
    exact k.block _ hg
end
/-- An own row is a slice of triples. -/
theorem owns_slice {w : World} {base : Nat} {v : Value} {ds : List TripD} (h : w.ownsRow base 51 9 v ds.length (cellsT ds)) : SliceT w v ds := by
  have h0 := h
  rcases h.2 with ⟨rfl, h'⟩ | ⟨g', cap', cur, rfl, hb, hg, hnc, hcm, hcs, htake⟩
  · exact .inl ⟨rfl, List.eq_nil_of_length_eq_zero h'⟩
  · exact .inr ⟨g', 0, cap', rfl, hnc, hcm, owns_row h0⟩
theorem own_slice_below {w w' : World} {base : Nat} {v : Value} {e : TypeId} {size n : Nat} {xs : List Value} (h : w.ownsRow base e size v n xs) (k : Below w.heap.size w w') : w'.ownsRow base e size v n xs := by
  rcases h.2 with ⟨rfl, h'⟩ | ⟨g', cap', cur, rfl, hb, hg, hnc, hcm, hcs, htake⟩
  · exact ⟨h.1, .inl ⟨rfl, h'⟩⟩
  · exact owns_below h k

/-- '!=' of two triples. -/
theorem trip_neq (x y : TripD) (w : World) : (binOp .neq 51 (tripleV x.1 x.2.1 x.2.2) (tripleV y.1 y.2.1 y.2.2)).run Tryz.prog w = .ok (.bool (!decide (x = y))) w := by
  have h := trip_eql x y w
  rw [run_neq_struct]
  rw [run_eql_struct] at h
  generalize Sem.run Tryz.prog (Op.equalIn 10000 51 (tripleV x.1 x.2.1 x.2.2) (tripleV y.1 y.2.1 y.2.2)) w = R at h ⊢
  cases R with
  | ok b w' =>
    simp only [Result.andThen_ok, Result.ok.injEq, Value.bool.injEq] at h ⊢
    exact ⟨by rw [h.1], h.2⟩
  | _ => simp [Result.andThen] at h
end Go.Proofs.YtachijkjcbajmaaGreatDoor
/-
  ARGUMENTS THAT ARE TERMS OR TRIPLES: opened to their cells, and shut again.
-/

namespace Go.Proofs.YtachijkjcbajmaaGreatDoor
open Go.ChangeShapes Go.WideShapes Go.ChangeAt Go.RowKit
set_option linter.unusedVariables false
set_option linter.constructorNameAsVariable false
set_option maxRecDepth 100000

section
variable {H : Type} {enc : TypeId × Value → H} {w : World} {base : Nat} {spare : Nat → Bool} {held : Bool} {fuel : Nat}

def termLit (a : TermD) : DataW H := .agg [.lit (.int .i64 a.1), .lit (.string a.2.1.data.toList), .lit (.string a.2.2.data.toList)]
def wfTerm (a : TermD) : Prop := (Lit.int .i64 a.1).wf = true ∧ a.2.1.size ≤ maxLen ∧ a.2.2.size ≤ maxLen
def tripleLit (a b c : TermD) : DataW H := .agg [termLit a, termLit b, termLit c]

theorem cells_int : Tryz.prog.cellsOf 29 = 1 := by kernel_rfl
theorem cells_str : Tryz.prog.cellsOf 9 = 1 := by kernel_rfl
theorem cells_term : Tryz.prog.cellsOf 31 = 3 := by kernel_rfl
theorem cells_triple : Tryz.prog.cellsOf 51 = 9 := by kernel_rfl

set_option maxRecDepth 100000 in
theorem trod_term {cs : List Value} {x : DataW H × List MemPlace} (h : DataW.trod enc Tryz.prog w base spare held fuel 31 cs = some x) :
    ∃ a : TermD, cs = [.int .i64 a.1, .string a.2.1, .string a.2.2] ∧ x = (termLit a, []) ∧ wfTerm a := by
  obtain ⟨xs, n, _, hx, hl, hlen, hf⟩ := DataW.trod_struct Tryz.underlying31 h
  rw [cells_term] at hl
  match cs, hl with
  | [v0, v1, v2], _ =>
    match xs, hlen with
    | [y0, y1, y2], _ =>
      have h0 := hf 0 { name := "Kind", type := 29, offset := 0, embedded := false, tag := "", pkgPath := "", byteOffset := 0 } rfl
      have h1 := hf 1 { name := "Text", type := 9, offset := 1, embedded := false, tag := "", pkgPath := "", byteOffset := 8 } rfl
      have h2 := hf 2 { name := "Extra", type := 9, offset := 2, embedded := false, tag := "", pkgPath := "", byteOffset := 24 } rfl
      dsimp only at h0 h1 h2
      rw [cells_int] at h0
      rw [cells_str] at h1 h2
      obtain ⟨k, e0, rfl, w0⟩ := DataW.trod_int Tryz.underlying29 h0
      obtain ⟨t, e1, rfl, w1⟩ := DataW.trod_string Tryz.underlying9 h1
      obtain ⟨s, e2, rfl, w2⟩ := DataW.trod_string Tryz.underlying9 h2
      simp at e0 e1 e2
      subst e0 e1 e2
      refine ⟨(k, t, s), rfl, ?_, w0, w1, w2⟩
      rw [hx]
      rfl

set_option maxRecDepth 100000 in
theorem trod_term_mk {a : TermD} (h : wfTerm a) (n : Nat) : DataW.trod enc Tryz.prog w base spare held (n + 2) 31 [.int .i64 a.1, .string a.2.1, .string a.2.2] = some (termLit a, []) := by
  have h0 : DataW.trod enc Tryz.prog w base spare held (n + 1) 29 [.int .i64 a.1] = some (.lit (.int .i64 a.1), []) := by
    unfold DataW.trod
    rw [Tryz.underlying29]
    simp [h.1]
  have h1 : ∀ s : ByteArray, s.size ≤ maxLen → DataW.trod enc Tryz.prog w base spare held (n + 1) 9 [.string s] = some (.lit (.string s.data.toList), []) := fun s hs => by
    unfold DataW.trod
    rw [Tryz.underlying9]
    simp [hs]
  have := trod_struct_mk (enc := enc) (w := w) (base := base) (spare := spare) (held := held) (n := n + 1) (cs := [.int .i64 a.1, .string a.2.1, .string a.2.2]) (xs := [(.lit (.int .i64 a.1), []), (.lit (.string a.2.1.data.toList), []), (.lit (.string a.2.2.data.toList), [])]) Tryz.underlying31 (by rw [cells_term]; rfl) (by
    have e1 := h1 _ h.2.1
    have e2 := h1 _ h.2.2
    simp [cells_int, cells_str, h0, e1, e2])
  exact this

set_option maxRecDepth 100000 in
theorem trod_triple {cs : List Value} {x : DataW H × List MemPlace} (h : DataW.trod enc Tryz.prog w base spare held fuel 51 cs = some x) :
    ∃ a b c : TermD, cs = [.int .i64 a.1, .string a.2.1, .string a.2.2, .int .i64 b.1, .string b.2.1, .string b.2.2, .int .i64 c.1, .string c.2.1, .string c.2.2] ∧ x = (tripleLit a b c, []) ∧ wfTerm a ∧ wfTerm b ∧ wfTerm c := by
  obtain ⟨xs, m, _, hx, hl, hlen, hf⟩ := DataW.trod_array Tryz.underlying51 h
  rw [cells_triple] at hl
  rw [cells_term] at hf
  match cs, hl with
  | [v0, v1, v2, v3, v4, v5, v6, v7, v8], _ =>
    match xs, hlen with
    | [y0, y1, y2], _ =>
      obtain ⟨a, e0, f0, wa⟩ := trod_term (hf 0 (by decide))
      obtain ⟨b, e1, f1, wb⟩ := trod_term (hf 1 (by decide))
      obtain ⟨c, e2, f2, wc⟩ := trod_term (hf 2 (by decide))
      simp at e0 e1 e2
      obtain ⟨rfl, rfl, rfl⟩ := e0
      obtain ⟨rfl, rfl, rfl⟩ := e1
      obtain ⟨rfl, rfl, rfl⟩ := e2
      refine ⟨a, b, c, rfl, ?_, wa, wb, wc⟩
      rw [hx, f0, f1, f2]
      rfl

theorem trod_array_mk {P : Program} {t e : TypeId} {k n : Nat} {cs : List Value} {xs : List (DataW H × List MemPlace)} (ht : P.underlying t = some (.array k e)) (hl : cs.length = P.cellsOf t)
    (hp : (List.range k).mapM (fun i => DataW.trod enc P w base spare held n e ((cs.drop (i * P.cellsOf e)).take (P.cellsOf e))) = some xs) :
    DataW.trod enc P w base spare held (n + 1) t cs = some (.agg (xs.map (·.1)), xs.flatMap (·.2)) := by
  unfold DataW.trod
  rw [ht]
  split <;> simp_all

set_option maxRecDepth 100000 in
theorem trod_triple_mk {a b c : TermD} (ha : wfTerm a) (hb : wfTerm b) (hc : wfTerm c) (n : Nat) :
    DataW.trod enc Tryz.prog w base spare held (n + 3) 51 [.int .i64 a.1, .string a.2.1, .string a.2.2, .int .i64 b.1, .string b.2.1, .string b.2.2, .int .i64 c.1, .string c.2.1, .string c.2.2] = some (tripleLit a b c, []) := by
  have e0 := trod_term_mk (enc := enc) (w := w) (base := base) (spare := spare) (held := held) ha n
  have e1 := trod_term_mk (enc := enc) (w := w) (base := base) (spare := spare) (held := held) hb n
  have e2 := trod_term_mk (enc := enc) (w := w) (base := base) (spare := spare) (held := held) hc n
  have hr : List.range 3 = [0, 1, 2] := rfl
  have := trod_array_mk (enc := enc) (w := w) (base := base) (spare := spare) (held := held) (n := n + 2) (cs := [.int .i64 a.1, .string a.2.1, .string a.2.2, .int .i64 b.1, .string b.2.1, .string b.2.2, .int .i64 c.1, .string c.2.1, .string c.2.2])
    (xs := [(termLit a, []), (termLit b, []), (termLit c, [])]) Tryz.underlying51 (by rw [cells_triple]; rfl) (by
      rw [cells_term, hr]
      simp [e0, e1, e2])
  exact this
end

/-- A triple as an argument. -/
theorem open_triple {H : Type} {enc : TypeId × Value → H} {w : World} {base : Nat} {spare : Nat → Bool} {held : Bool} {r : Reach} {b0 : Nat} {v : Value} {d : DataW H} {ps : List MemPlace}
    (hval : Value.okWide Tryz.prog w r b0 51 v) (hd : DataW.Trod enc Tryz.prog w base spare held 51 v d ps) :
    ∃ a b c : TermD, v = tripleV a b c ∧ d = tripleLit a b c ∧ ps = [] ∧ wfTerm a ∧ wfTerm b ∧ wfTerm c := by
  have h1 : ∃ cs, v = .agg cs := by
    simp only [Value.okWide, Tryz.underlying51] at hval
    obtain ⟨cs, h1, _⟩ := hval
    exact ⟨cs, h1⟩
  obtain ⟨cs, rfl⟩ := h1
  obtain ⟨fuel, hf⟩ := hd
  obtain ⟨a, b, c, e, hx, wa, wb, wc⟩ := trod_triple hf
  refine ⟨a, b, c, ?_, (Prod.mk.inj hx).1, (Prod.mk.inj hx).2, wa, wb, wc⟩
  simp only [Value.cells] at e
  have : cs = cs.toList.toArray := by simp
  rw [this, e]
theorem shut_triple {H : Type} {enc : TypeId × Value → H} {w : World} {base : Nat} {spare : Nat → Bool} {held : Bool} {a b c : TermD} (ha : wfTerm a) (hb : wfTerm b) (hc : wfTerm c) :
    DataW.Trod enc Tryz.prog w base spare held 51 (tripleV a b c) (tripleLit a b c) [] := ⟨3, trod_triple_mk ha hb hc 0⟩

/-- A term as an argument. -/
theorem open_term {H : Type} {enc : TypeId × Value → H} {w : World} {base : Nat} {spare : Nat → Bool} {held : Bool} {r : Reach} {b0 : Nat} {v : Value} {d : DataW H} {ps : List MemPlace}
    (hval : Value.okWide Tryz.prog w r b0 31 v) (hd : DataW.Trod enc Tryz.prog w base spare held 31 v d ps) :
    ∃ a : TermD, v = termD a ∧ d = termLit a ∧ ps = [] ∧ wfTerm a := by
  have h1 : ∃ cs, v = .agg cs := by
    simp only [Value.okWide, Tryz.underlying31] at hval
    obtain ⟨cs, h1, _⟩ := hval
    exact ⟨cs, h1⟩
  obtain ⟨cs, rfl⟩ := h1
  obtain ⟨fuel, hf⟩ := hd
  obtain ⟨a, e, hx, wa⟩ := trod_term hf
  refine ⟨a, ?_, (Prod.mk.inj hx).1, (Prod.mk.inj hx).2, wa⟩
  simp only [Value.cells] at e
  have : cs = cs.toList.toArray := by simp
  rw [this, e]
theorem shut_term {H : Type} {enc : TypeId × Value → H} {w : World} {base : Nat} {spare : Nat → Bool} {held : Bool} {a : TermD} (ha : wfTerm a) :
    DataW.Trod enc Tryz.prog w base spare held 31 (termD a) (termLit a) [] := ⟨2, trod_term_mk ha 0⟩
end Go.Proofs.YtachijkjcbajmaaGreatDoor
/-
  utf.Runes: THE ITERATOR's CONTRACT.
-/

namespace Go.Proofs.YtachijkjcbajmaaGreatDoor
open Go.RowKit Go.Shelf
open Utf
attribute [local go_sem] Oper.semAt_some

namespace Utf
/-- The runes of bytes, with their places, from place 'at' on; fuel bounds their number. -/
def runesAt : Nat → Nat → List Int → List (Nat × Int)
  | 0, _, _ => []
  | fuel + 1, p, l => if (dec l).2 = 0 then [] else (p, (dec l).1) :: runesAt fuel (p + (dec l).2) (l.drop (dec l).2)

def runes (l : List Int) : List (Nat × Int) := runesAt l.length 0 l

theorem runesAt_length : ∀ (fuel p : Nat) (l : List Int), (runesAt fuel p l).length ≤ fuel
  | 0, _, _ => Nat.le_refl _
  | fuel + 1, p, l => by
    unfold runesAt
    split
    · simp
    · simp [runesAt_length fuel _ _]

theorem runesAt_more : ∀ (fuel p : Nat) (l : List Int), l.length ≤ fuel → runesAt fuel p l = runesAt l.length p l
  | 0, p, l, h => by have : l.length = 0 := by omega
                     rw [this]
  | fuel + 1, p, l, h => by
    cases e : l.length with
    | zero =>
      have : l = [] := List.eq_nil_of_length_eq_zero e
      subst this
      simp [runesAt, dec]
    | succ k =>
      unfold runesAt
      split
      · rfl
      · rename_i hn
        have hd : (l.drop (dec l).2).length = l.length - (dec l).2 := List.length_drop
        rw [runesAt_more fuel _ _ (by rw [hd]; omega), runesAt_more k _ _ (by rw [hd]; omega)]

/-- The runes of the rest. -/
def rest (p : Nat) (l : List Int) : List (Nat × Int) := runesAt l.length p l
theorem rest_stop {p : Nat} {l : List Int} (h : (dec l).2 = 0) : rest p l = [] := by
  unfold rest
  cases e : l.length with
  | zero => rfl
  | succ k => unfold runesAt; rw [if_pos h]
theorem rest_step {p : Nat} {l : List Int} (h : (dec l).2 ≠ 0) : rest p l = (p, (dec l).1) :: rest (p + (dec l).2) (l.drop (dec l).2) := by
  unfold rest
  have h1 := (dec_le l).1
  cases e : l.length with
  | zero => omega
  | succ k =>
    rw [runesAt, if_neg h, runesAt_more k _ _ (by rw [List.length_drop]; omega)]
end Utf

/-- A place and a rune, as yield's arguments. -/
abbrev pairVals (x : Nat × Int) : Array Value := #[Value.int .i64 (x.1 : Int), Value.int .i64 x.2]

set_option maxHeartbeats 1000000 in
theorem runes_in (F : Fence) (n : Nat) (h : F.fn 117) (hro : F.round = none) (s : ByteArray) (w : World) :
    CallsIn F n Tryz.prog 117 #[.string s] w fun e w' => e = .returned (.func (.func 133) #[] #[.pointer (some ⟨w.heap.size, 0, none⟩)]) ∧ w' = w.alloc (.cells #[.string s] 9) := by
  refine callsIn_of_wp Tryz.func117 rfl h ?_ hro
  simp only [Tryz.ntmps117, List.size_toArray, List.length_cons, List.length_nil, Nat.reduceAdd, Nat.reduceSub, Array.replicate_succ, Array.replicate_zero, List.push_toArray, List.append_toArray, List.nil_append, List.cons_append]
  gi_wp2
  go_ret
  exact ⟨rfl, rfl⟩

/-- A place and a rune that may come. -/
abbrev RuneAt := { x : Nat × Int // x.1 ≤ 9223372036854770000 ∧ May x.2 }
abbrev runeVals (x : RuneAt) : Array Value := #[Value.int .i64 (x.1.1 : Int), Value.int .i64 x.1.2]

namespace Utf
/-- The runes of the rest, each bearing its own bounds. -/
def restR : Nat → Nat → List Int → List RuneAt
  | 0, _, _ => []
  | fuel + 1, p, l => if h : (dec l).2 = 0 ∨ 9223372036854770000 < p then [] else
    ⟨(p, (dec l).1), by omega, (dec_some (r := (dec l).1) (n := (dec l).2) rfl (by omega)).1⟩ :: restR fuel (p + (dec l).2) (l.drop (dec l).2)

theorem restR_val : ∀ (fuel p : Nat) (l : List Int), p + l.length ≤ 9223372036854770000 → (restR fuel p l).map (·.1) = runesAt fuel p l
  | 0, _, _, _ => rfl
  | fuel + 1, p, l, h => by
    unfold restR runesAt
    by_cases h0 : (dec l).2 = 0
    · rw [dif_pos (.inl h0), if_pos h0]; rfl
    · have := (dec_le l).1
      rw [dif_neg (by omega), if_neg h0, List.map_cons, restR_val fuel _ _ (by rw [List.length_drop]; omega)]

/-- All runes of a text, with their places. -/
def allR (l : List Int) : List RuneAt := restR l.length 0 l
def tailR (p : Nat) (l : List Int) : List RuneAt := restR l.length p l

theorem tailR_val {p : Nat} {l : List Int} (h : p + l.length ≤ 9223372036854770000) : (tailR p l).map (·.1) = rest p l := restR_val _ _ _ h

theorem map_val_inj {a b : List RuneAt} (h : a.map (·.1) = b.map (·.1)) : a = b :=
  (List.map_inj_right fun _ _ e => Subtype.ext e).1 h

theorem tailR_stop {p : Nat} {l : List Int} (hb : p + l.length ≤ 9223372036854770000) (h : (dec l).2 = 0) : tailR p l = [] := by
  have := tailR_val hb
  rw [rest_stop h] at this
  exact List.map_eq_nil_iff.1 this
theorem tailR_step {p : Nat} {l : List Int} (hb : p + l.length ≤ 9223372036854770000) (h : (dec l).2 ≠ 0) :
    ∃ x : RuneAt, x.1 = (p, (dec l).1) ∧ tailR p l = x :: tailR (p + (dec l).2) (l.drop (dec l).2) := by
  have h1 := (dec_le l).1
  refine ⟨⟨(p, (dec l).1), by omega, (dec_some (r := (dec l).1) (n := (dec l).2) rfl h).1⟩, rfl, map_val_inj ?_⟩
  rw [tailR_val hb, List.map_cons, tailR_val (by rw [List.length_drop]; omega), rest_step h]

theorem restR_length : ∀ (fuel p : Nat) (l : List Int), (restR fuel p l).length ≤ fuel
  | 0, _, _ => Nat.le_refl _
  | fuel + 1, p, l => by
    unfold restR
    split
    · simp
    · simp [restR_length fuel _ _]
end Utf

theorem get_ok (s : ByteArray) (w : World) (hs : s.size ≤ 9223372036854775807) {r : Int} {n : Nat} (h : dec (bs s) = (r, n)) (hn : n ≠ 0) :
    Calls Tryz.prog 77 #[.string s] w fun e w' => e = .returned (.tuple #[.int .i64 r, .int .i64 (n : Nat), .int .i64 0]) ∧ w = w' :=
  (get_any s w hs).mono fun e w' ⟨he, hw⟩ => ⟨by rw [he]; unfold gotten; rw [h]; simp [getErr, hn], hw⟩
theorem get_no (s : ByteArray) (w : World) (hs : s.size ≤ 9223372036854775807) (h : (dec (bs s)).2 = 0) :
    Calls Tryz.prog 77 #[.string s] w fun e w' => e = .returned (.tuple #[.int .i64 0, .int .i64 0, .int .i64 4]) ∧ w = w' :=
  (get_any s w hs).mono fun e w' ⟨he, hw⟩ => ⟨by rw [he, gotten_zero (dec_zero h)], hw⟩

/-- What a round keeps: the block that holds the text. -/
def KeepsBlock (B : Nat) (W W' : World) : Prop := W'.heap[B]? = W.heap[B]?

theorem bs_rest (s : ByteArray) (p : Nat) : bs (s.extract p s.size) = (bs s).drop p := by
  unfold bs
  rw [Lib.extract_data, List.map_take, List.map_drop]
  apply List.take_of_length_le
  simp

set_option maxRecDepth 100000 in
set_option maxHeartbeats 2000000 in
/-- The closure: for every body that keeps the text's block. -/
theorem iter_in (n : Nat) (hn : 1 ≤ n) (l Bs : Nat) (s : ByteArray) (hs : s.size ≤ 1000000000000) (J Jx : List RuneAt → World → Prop)
    (hY : ∀ pre x W, J pre W → pre ++ [x] <+: allR (bs s) → YieldAt Fence.wide (n - 1) Tryz.prog l (runeVals x) W fun e W' =>
      (e = .returned (.bool true) ∧ J (pre ++ [x]) W' ∧ KeepsBlock Bs W W') ∨ (e = .returned (.bool false) ∧ Jx (pre ++ [x]) W'))
    (W : World) (hBs : W.heap[Bs]? = some (.cells #[.string s] 9 (0, 0))) (h0 : J [] W) :
    CallsIn Fence.wide n Tryz.prog 133 #[.func (.yield l) #[] #[], .pointer (some ⟨Bs, 0, none⟩)] W fun e W' => (∃ v, e = .returned v) ∧
      ((∃ ys, ys = allR (bs s) ∧ J ys W') ∨ (∃ pre, pre <+: allR (bs s) ∧ Jx pre W')) := by
  refine callsIn_of_wp Tryz.func133 rfl trivial ?_ rfl
  simp only [Tryz.ntmps133, List.size_toArray, List.length_cons, List.length_nil, Nat.reduceAdd, Nat.reduceSub, Array.replicate_succ, Array.replicate_zero, List.push_toArray, List.append_toArray, List.nil_append, List.cons_append]
  gi_wp2
  gi_loopw [3] (fun i wr => ∃ (p : Nat) (pre : List RuneAt), p ≤ s.size ∧ i = .int .i64 p ∧ allR (bs s) = pre ++ tailR p ((bs s).drop p) ∧ J pre wr ∧ wr.heap[Bs]? = some (.cells #[.string s] 9 (0, 0)) ∧ pre.length ≤ p)
    (fun i _ => s.size - (intOf i).toNat)
  case atStart => exact ⟨0, [], by omega, rfl, rfl, h0, hBs, by simp⟩
  case round =>
    obtain ⟨p, pre, hp, rfl, hall, hJs, hb, hpl⟩ := hrel
    have hc := cell_of_one hb
    have HB := Lib.hid hb
    have HA := Lib.hid hall
    clear hb hall
    by_cases hlt : p < s.size
    · by_cases hd : (dec (bs (s.extract p s.size))).2 = 0
      · have HG := Lib.hid (get_no (s.extract p s.size) wr (by simp; omega) hd)
        have HD := Lib.hid hd
        clear hd
        gi_wp2_with (refine ⟨trivial, ?_⟩; gi_at_call 77; refine (callsIn_wide.2 HG.out).mono ?_; rintro e w' ⟨rfl, rfl⟩)
        refine ⟨fun _ h => (by cases h), ?_⟩
        gi_wp2
        refine bodyPost_ret (results_none rfl _ _ _) rfl ?_
        refine ⟨⟨_, rfl⟩, .inl ⟨_, ?_, hJs⟩⟩
        rw [HA.out, tailR_stop, List.append_nil]
        · rw [List.length_drop, bs_length]; omega
        · rw [← bs_rest]; exact HD.out
      · obtain ⟨r, m, hrm⟩ : ∃ r m, dec (bs (s.extract p s.size)) = (r, m) := ⟨_, _, rfl⟩
        rw [hrm] at hd
        have hm0 : m ≠ 0 := hd
        have HG := Lib.hid (get_ok (s.extract p s.size) wr (by simp; omega) hrm hm0)
        rw [bs_rest] at hrm
        obtain ⟨x, hx1, hx2⟩ := tailR_step (p := p) (l := (bs s).drop p) (by rw [List.length_drop, bs_length]; omega) (by rw [hrm]; exact hm0)
        rw [hrm] at hx1 hx2
        have hmle : p + m ≤ s.size := by
          have := (dec_le ((bs s).drop p)).1
          rw [hrm, List.length_drop, bs_length] at this
          omega
        simp only [List.drop_drop] at hx2
        rw [hx2] at HA
        clear hx2 hrm hd
        obtain ⟨fn, tmps, assign, body, hy, hR⟩ := hY pre x wr hJs (by rw [HA.out]; exact ⟨tailR (p + m) ((bs s).drop (p + m)), by simp⟩)
        have HR := Lib.hid hR
        clear hR
        dsimp only [runeVals] at hy
        rw [hx1] at hy
        dsimp only at hy
        clear hx1
        have hm1 : 1 ≤ m := by omega
        clear hm0
        gi_wp2_with (refine ⟨trivial, ?_⟩; gi_at_call 77; refine (callsIn_wide.2 HG.out).mono ?_; rintro e w' ⟨rfl, rfl⟩)
        refine HR.out.mono ?_
        rintro e W3 (⟨rfl, hJ3, hk3⟩ | ⟨rfl, hJx3⟩)
        · have hb3 : W3.heap[Bs]? = some (.cells #[.string s] 9 (0, 0)) := Eq.trans hk3 HB.out
          have HB3 := Lib.hid hb3
          clear hb3 hk3
          gi_wp2
          go_roundw
          case rel => exact ⟨p + m, pre ++ [x], hmle, by simp, by rw [HA.out]; simp, hJ3, HB3.out, by simp; omega⟩
          case measure => simp [intOf]; omega
        · gi_wp2
          refine bodyPost_ret (results_none rfl _ _ _) rfl ?_
          exact ⟨⟨_, rfl⟩, .inr ⟨pre ++ [x], by rw [HA.out]; exact ⟨tailR (p + m) ((bs s).drop (p + m)), by simp⟩, hJx3⟩⟩
    · obtain rfl : p = s.size := by omega
      gi_wp2
      go_end0
      refine ⟨⟨_, rfl⟩, .inl ⟨_, ?_, hJs⟩⟩
      rw [HA.out, tailR_stop, List.append_nil]
      · rw [List.length_drop, bs_length]; omega
      · rw [List.drop_of_length_le (by rw [bs_length]; omega)]; rfl
end Go.Proofs.YtachijkjcbajmaaGreatDoor
/-
  A ROW OF BYTES as a string.
-/

namespace Go.Proofs.YtachijkjcbajmaaGreatDoor
open Go.RowKit
open Utf

/-- A row with elements leads to a block, whose cells they are. -/
theorem owns_some {w : World} {B : Nat} {v : Value} {n : Nat} {xs : List Int} (h : w.ownsRow B 5 1 v n (xs.map (Value.int .u8))) (hn : 0 < n) :
    ∃ g cap, v = .slice (some ⟨g, 0, none⟩) n cap ∧ B ≤ g ∧ g < w.heap.size ∧ xs.length = n ∧ ∀ i, i < n → w.cell? ⟨g, 0 + i, none⟩ = some (.int .u8 (xs.getD i 0)) := by
  have h' := h
  obtain ⟨hl, ⟨_, h0⟩ | ⟨g, cap, cur, rfl, hg, hb, hle, _, hc, ht⟩⟩ := h
  · omega
  · have hxs : xs.length = n := by simpa using hl
    refine ⟨g, cap, rfl, hg, (Array.getElem?_eq_some_iff.1 hb).1, hxs, ?_⟩
    intro i hi
    have := h'.cellAt i (by omega)
    rw [Nat.zero_add, this, List.getElem?_map, List.getElem?_eq_getElem (by omega)]
    simp [hxs, hi]

/-- The row as a string. -/
theorem owns_string {w w' : World} {g n cap : Nat} {xs : List Int} (hx : xs.length = n) (hc : ∀ i, i < n → w.cell? ⟨g, 0 + i, none⟩ = some (.int .u8 (xs.getD i 0))) (hg : g < w.heap.size) (hB : Below w.heap.size w w') :
    (convert 88 9 (.slice (some ⟨g, 0, none⟩) n cap)).run Tryz.prog w' = .ok (.string (strOfNums xs)) w' :=
  run_convert_bytes_arg _ _ 5 Tryz.underlying88 Tryz.underlying5 _ _ _ _ xs hx (fun i hi => (hB.cell (p := ⟨g, 0 + i, none⟩) hg).trans (hc i hi)) _ Tryz.underlying9

/-- A row of bytes that is one's own: nil, or at the head of a block. -/
theorem owns_forms {w : World} {B : Nat} {v : Value} {n : Nat} {xs : List Int} (h : w.ownsRow B 5 1 v n (xs.map (Value.int .u8))) :
    (v = .slice none 0 0 ∧ xs = []) ∨ ∃ g cap, v = .slice (some ⟨g, 0, none⟩) n cap ∧ g < w.heap.size ∧ xs.length = n ∧ ∀ i, i < n → w.cell? ⟨g, 0 + i, none⟩ = some (.int .u8 (xs.getD i 0)) := by
  have h' := h
  obtain ⟨hl, ⟨rfl, rfl⟩ | ⟨g, cap, cur, rfl, hg, hb, hle, _, hc, ht⟩⟩ := h
  · left; exact ⟨rfl, by simpa using hl⟩
  · have hxs : xs.length = n := by simpa using hl
    right
    refine ⟨g, cap, rfl, (Array.getElem?_eq_some_iff.1 hb).1, hxs, ?_⟩
    intro i hi
    have := h'.cellAt i (by omega)
    rw [Nat.zero_add, this, List.getElem?_map, List.getElem?_eq_getElem (by omega)]
    simp [hxs, hi]

theorem nil_string (w : World) : (convert 88 9 (.slice none 0 0)).run Tryz.prog w = .ok (.string (strOfNums [])) w := by
  rw [run_convert_bytes_nil w 88 5 Tryz.underlying88 Tryz.underlying5 _ _ _ Tryz.underlying9]
  rfl

end Go.Proofs.YtachijkjcbajmaaGreatDoor
/-
  CONTRACTS OF utf.Valid AND utf.Len.
-/

namespace Go.Proofs.YtachijkjcbajmaaGreatDoor
open Go.RowKit Go.Shelf
open Utf
attribute [local go_sem] Oper.semAt_some

theorem runes_stops (n : Nat) (hn : 1 ≤ n) (Bs : Nat) (s : ByteArray) (hs : s.size ≤ 1000000000000) (w : World) (hBs : w.heap[Bs]? = some (.cells #[.string s] 9 (0, 0))) :
    SeqStopsK Fence.wide n Tryz.prog 133 #[.pointer (some ⟨Bs, 0, none⟩)] runeVals (KeepsBlock Bs) (fun ys => ys = allR (bs s)) (fun pre => pre <+: allR (bs s)) s.size w :=
  fun l J Jx W hW _ _ hY h0 => iter_in n hn l Bs s hs J Jx (fun pre x W' hJ hp => hY pre x W' hJ (by
    have h1 := hp.length_le
    have h2 : (allR (bs s)).length ≤ (bs s).length := restR_length _ _ _
    rw [bs_length] at h2
    rw [List.length_append] at h1
    simp at h1
    omega)) W ((hW.block Bs (lt_of_block hBs)).trans hBs) h0

theorem keeps_t {B : Nat} {a b c : World} (h : KeepsBlock B a b) (k : KeepsBlock B b c) : KeepsBlock B a c := Eq.trans k h
theorem keeps_b {B : Nat} {w : World} (hB : B < w.heap.size) (W : World) (l : Nat) (o o' : Obj) (hl : w.heap.size ≤ l) (_ : W.heap[l]? = some o) (_ : o.isCells = false) (_ : o.isWalk = false) : KeepsBlock B W (W.putObj l o') :=
  World.putObj_heap_other (by omega)

namespace Utf
/-- Where the last rune ends. -/
def endR (l : List RuneAt) : Nat := match l.getLast? with | none => 0 | some x => x.1.1 + rsize x.1.2
theorem endR_nil : endR [] = 0 := rfl
theorem endR_snoc (l : List RuneAt) (x : RuneAt) : endR (l ++ [x]) = x.1.1 + rsize x.1.2 := by simp [endR]
/-- Well made? -/
def valid (l : List Int) : Bool := ((endR (allR l) : Int) == (l.length : Int))
end Utf

set_option maxRecDepth 100000 in
set_option maxHeartbeats 2000000 in
theorem valid_in (n : Nat) (hn : 3 ≤ n) (s : ByteArray) (hs : s.size ≤ 1000000000000) (w : World) :
    CallsIn Fence.wide n Tryz.prog 125 #[.string s] w fun e W' => e = .returned (.bool (valid (bs s))) ∧ Below w.heap.size w W' := by
  have h1 : 1 ≤ n := by omega
  refine callsIn_of_wp_marks Tryz.func125 rfl trivial ?_ rfl
  simp only [Tryz.ntmps125, List.size_toArray, List.length_cons, List.length_nil, Nat.reduceAdd, Nat.reduceSub, Array.replicate_succ, Array.replicate_zero, List.push_toArray, List.append_toArray, List.nil_append, List.cons_append]
  gi_wp2_with (refine ⟨trivial, ?_⟩; gi_at_call 117; refine (runes_in Fence.wide (n - 1) trivial rfl _ _).mono ?_; rintro e w' ⟨rfl, rfl⟩)
  have bS := Boxed.new w 3 (.int .i64 0)
  have bN := Boxed.new (w.alloc (.cells #[.int .i64 0] 3)) 9 (.string s)
  rw [World.size_alloc] at bN
  have hB0 : Below w.heap.size w ((w.alloc (.cells #[.int .i64 0] 3)).alloc (.cells #[.string s] 9)) := ((Below.refl _ w).alloc (Nat.le_refl _) _).alloc (by simp) _
  refine wpIn_rangeFunc_ownG rfl h1 (gf := 133) (lb := #[.pointer (some ⟨w.heap.size + 1, 0, none⟩)]) rfl trivial (enters_of Tryz.func133 (by kernel_rfl) rfl)
    (runes_stops (n - 1) (by omega) (w.heap.size + 1) s hs _ bN) keeps_t (keeps_b (by simp)) (Below.refl _ _) (fun _ => rfl)
    (fun pre W => (W.cell? ⟨w.heap.size, 0, none⟩ = some (.int .i64 (endR pre : Nat)) ∧ W.frozen? ⟨w.heap.size, 0, none⟩ = false) ∧ Below w.heap.size w W)
    (fun _ _ _ => False)
    (OwnFrom.and (Own.from (fun s A B row hs hg hr => ⟨cell_kept hs.1 hg hr, (frozen_kept hs.1 hg hr).trans hs.2⟩) _) (ownFrom_below (Nat.le_refl _) (by simp; omega)))
    (fun _ _ _ _ _ hs _ _ => hs)
    ⟨⟨(bS.alloc _).cell, (bS.alloc _).frozen⟩, hB0⟩
    (fun x => { tmps := #[.string s, undef, .bool false, .pointer (some ⟨w.heap.size, 0, none⟩), .int .i64 (x.1.1 : Int), .int .i64 x.1.2, .string s, .func (.func 133) #[] #[.pointer (some ⟨w.heap.size + 1, 0, none⟩)], .int .i64 (x.1.1 : Int), .int .i64 x.1.2, undef, undef, undef, undef, undef, undef, undef, undef], defers := [] }) ?assign ?body ?done ?stop
  case assign =>
    intro l x W K hK
    gi_wp2
    exact hK
  case body =>
    rintro l pre x W ⟨⟨hc, hf⟩, hB⟩ _
    have hp := x.2.1
    have hz := rsize_le x.1.2
    have h3 : 1 ≤ n - 1 - 1 := by omega
    gi_wp2_with (refine ⟨trivial, ?_⟩; gi_at_call 96; refine (CallsIn.inRound l (callsIn_wide.2 (size_any _ _))).mono ?_; rintro e w' ⟨rfl, rfl⟩)
    exact ⟨(KeepsOthers.setCell _ _ _).from _, Below.heap_setCell _ _ _ _ (by simp), ⟨by rw [endR_snoc]; exact World.cell?_setCell_same' _ _ _ (by rw [hc]; rfl), by rw [World.frozen?_setCell]; exact hf⟩, hB.setCell (p := ⟨w.heap.size, 0, none⟩) (Nat.le_refl _) _⟩
  case done =>
    rintro D ys W hD rfl ⟨⟨hc, hf⟩, hB⟩ hK
    gi_wp2
    refine ⟨by simp, .inl ⟨_, _, rfl, run_takeDeferred hK, ?_⟩⟩
    exact ⟨_, results_tmp rfl _ _ _, by unfold valid; rw [bs_length]; rfl, hB.trans (belowK_b (w := w) (Nat.le_refl _) W D _ _ (by simp at hD; omega) hK rfl rfl)⟩
  case stop =>
    rintro D c pre W _ _ h _
    exact h.elim

theorem valid_any (s : ByteArray) (w : World) (hs : s.size ≤ 1000000000000) :
    Calls Tryz.prog 125 #[.string s] w fun e W' => e = .returned (.bool (valid (bs s))) ∧ Below w.heap.size w W' := callsIn_wide.1 (valid_in 3 (Nat.le_refl _) s hs w)
end Go.Proofs.YtachijkjcbajmaaGreatDoor
