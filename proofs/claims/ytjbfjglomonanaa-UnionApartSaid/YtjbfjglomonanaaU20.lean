/-
  WHAT THE PROOF STANDS ON, a part of it: UnPart, UnLen.
-/
import Derived.Test.YtjbfjglomonanaaU6
import Derived.Test.YtjbfjglomonanaaU19
import Derived.Test.YtjbfjglomonanaaU2
/-
  A PARTITION IN MEMORY: the struct, its maps, its cliques' lists; what stays of it. CONTRACT OF clique.
-/

namespace Go.Proofs.Ytjbfjglomonanaa
open Go.RowKit
set_option linter.unusedVariables false
set_option linter.unusedSimpArgs false

/-- What a partition tells: each number's name, each name's least number and list. -/
structure PartA where
  nm : Nat → Option Nat
  ab : Nat → Option (Nat × List Nat)
/-- One clique's list in memory. -/
def ListR (W : World) (S : Nat → Prop) (x : Option (Nat × List Nat)) (c : Option ClD) : Prop := match x with
  | none => c = none
  | some (m, ns) => ∃ ao cap, c = some ⟨m, ao, ns.length, cap⟩ ∧ RowK W 23 1 ao ns.length cap (u32C ns) ∧ ∀ a, ao = some a → S a.block
structure PartI (W : World) (S : Nat → Prop) (pb nb cb : Nat) (A : PartA) (cl : Nat → Option ClD) : Prop where
  mem : PartM W pb nb cb A.nm cl
  ne : nb ≠ cb
  sP : S pb
  sN : S nb
  sC : S cb
  lt : ∀ j, S j → j < W.heap.size
  lists : ∀ n, ListR W S (A.ab n) (cl n)
  apart : ∀ n n' c c', n ≠ n' → cl n = some c → cl n' = some c' → ∀ a a', c.ao = some a → c'.ao = some a' → a.block ≠ a'.block
  named : ∀ a n, A.nm a = some n → (A.ab n).isSome = true
section
variable {W U w : World} {S S' : Nat → Prop} {pb nb cb : Nat} {A : PartA} {cl : Nat → Option ClD}
theorem ListR.kept {x : Option (Nat × List Nat)} {c : Option ClD} (h : ListR W S x c) (k : ∀ d a, c = some d → d.ao = some a → U.heap[a.block]? = W.heap[a.block]?) (hs : ∀ j, S j → S' j) : ListR U S' x c := by
  cases x with
  | none => exact h
  | some x =>
    obtain ⟨m, ns⟩ := x
    obtain ⟨ao, cap, e, hr, ha⟩ := h
    exact ⟨ao, cap, e, hr.kept fun a h1 => k _ _ e h1, fun a h1 => hs _ (ha a h1)⟩
theorem ListR.at_ {x : Option (Nat × List Nat)} {d : ClD} (h : ListR W S x (some d)) {a : Addr} (ha : d.ao = some a) : S a.block := by
  cases x with
  | none => cases h
  | some x =>
    obtain ⟨m, ns⟩ := x
    obtain ⟨ao, cap, e, hr, hs⟩ := h
    cases e
    exact hs a ha
theorem PartI.kept (h : PartI W S pb nb cb A cl) (hs : W.heap.size ≤ U.heap.size) (k : ∀ j, S j → U.heap[j]? = W.heap[j]?) : PartI U S pb nb cb A cl :=
  { h with
    mem := ⟨by rw [k pb h.sP]; exact h.mem.blk, h.mem.names.kept (k nb h.sN), h.mem.cliques.kept (k cb h.sC)⟩
    lt := fun j hj => Nat.lt_of_lt_of_le (h.lt j hj) hs
    lists := fun n => (h.lists n).kept (fun d a hd ha => k _ (ListR.at_ (hd ▸ h.lists n) ha)) (fun j hj => hj) }
theorem PartI.below (h : PartI W S pb nb cb A cl) (k : Below W.heap.size W U) : PartI U S pb nb cb A cl := h.kept k.size fun j hj => k.block j (h.lt j hj)
theorem PartI.beside {T : Nat → Prop} (h : PartI W S pb nb cb A cl) (k : Turned T W U) (hn : ∀ j, S j → ¬ T j) : PartI U S pb nb cb A cl := h.kept k.size fun j hj => k.block j (h.lt j hj) (hn j hj)
theorem PartI.wide (h : PartI W S pb nb cb A cl) (hs : ∀ j, S j → S' j) (hl : ∀ j, S' j → j < W.heap.size) : PartI W S' pb nb cb A cl :=
  { h with
    sP := hs _ h.sP
    sN := hs _ h.sN
    sC := hs _ h.sC
    lt := hl
    lists := fun n => (h.lists n).kept (fun _ _ _ _ => rfl) hs }
end
/-- A number's name, and its clique. -/
def lookA (A : PartA) (a : Nat) : Nat × Nat × List Nat := match A.nm a with
  | none => (a, a, [a])
  | some n => (n, ((A.ab n).getD (0, [])).1, ((A.ab n).getD (0, [])).2)
/-- A clique that is told: of the partition's lists, or in new memory. -/
def ToldR (W : World) (B : Nat) (A : PartA) (cl : Nat → Option ClD) (a : Nat) (c : ClD) : Prop :=
  c.least = (lookA A a).2.1 ∧ c.len = (lookA A a).2.2.length ∧ RowK W 23 1 c.ao c.len c.cap (u32C (lookA A a).2.2) ∧ ((A.nm a = none ∧ ∀ x, c.ao = some x → B ≤ x.block) ∨ (A.nm a = some (lookA A a).1 ∧ cl (lookA A a).1 = some c))
theorem ToldR.below {W U : World} {B : Nat} {A : PartA} {cl : Nat → Option ClD} {a : Nat} {c : ClD} (h : ToldR W B A cl a c) (k : Below W.heap.size W U) : ToldR U B A cl a c := ⟨h.1, h.2.1, h.2.2.1.below k, h.2.2.2⟩
theorem runfield_cl (l : Int) (ao : Option Addr) (len cap : Nat) (W : World) : (Instr.field 50 (.agg #[.int .u32 l, .slice ao len cap]) 1).run Try.prog W = .ok (.slice ao len cap) W := by kernel_rfl
theorem results_tmp_cell {fn : Func} {p u : Tmp} {ty : TypeId} (h : fn.results = #[.tmp u, .cell p ty]) (tmps : Array Value) (P : Program) (w : World) (g : Nat) (t : TypeId) (cs : Array Value) (fr : Nat × Nat) (fs : Array Field)
    (hp : tmps.getD p undef = .pointer (some ⟨g, 0, none⟩)) (hg : w.heap[g]? = some (.cells cs t fr))
    (hu : P.underlying ty = some (.struct fs)) (hi : (P.info? ty).map (·.size) = some cs.size) :
    (results fn tmps).run P w = .ok (.tuple #[tmps.getD u undef, .agg cs]) w := by
  have hp' : tmps[p]?.getD undef = .pointer (some ⟨g, 0, none⟩) := by simpa using hp
  simp [results, h, hp', asAddr, run_loadVar_row w g t ty cs fr (.struct fs) hg hu rfl hi, Result.andThen]
theorem row_one (W : World) (v : Value) (e : TypeId) : RowK (W.alloc (.cells #[v] e)) e 1 (some ⟨W.heap.size, 0, none⟩) 1 1 [v] :=
  ⟨rfl, .inr ⟨_, 0, _, rfl, heap_alloc_new W _, Nat.le_refl _, by unfold maxLen; omega, fun h => absurd h (Nat.lt_irrefl _), fun j u hu => by simpa using hu⟩⟩
set_option maxRecDepth 100000 in
theorem clique_any {w : World} {S : Nat → Prop} {pb nb cb : Nat} {A : PartA} {cl : Nat → Option ClD} (h : PartI w S pb nb cb A cl) (a : Nat) : Calls Try.prog 19 #[.pointer (some ⟨pb, 0, none⟩), .int .u32 (a : Int)] w fun e w' =>
    ∃ c : ClD, e = .returned (.tuple #[.int .u32 ((lookA A a).1 : Int), .agg #[.int .u32 (c.least : Int), .slice c.ao c.len c.cap]]) ∧ ToldR w' w.heap.size A cl a c ∧ Below w.heap.size w w' := by
  have hb1 := (Below.refl w.heap.size w).alloc (Nat.le_refl _) (.cells #[.int .u32 0, .slice none 0 0] 50)
  have d1 := heap_alloc_new w (.cells #[.int .u32 0, .slice none 0 0] 50)
  have hs1 : (w.alloc (.cells #[.int .u32 0, .slice none 0 0] 50)).heap.size = w.heap.size + 1 := World.size_alloc _ _
  obtain ⟨w1, hw1⟩ : ∃ w1, w1 = w.alloc (.cells #[.int .u32 0, .slice none 0 0] 50) := ⟨_, rfl⟩
  rw [← hw1] at hb1 d1 hs1
  obtain ⟨n0, hn0⟩ : ∃ n0, n0 = w.heap.size := ⟨_, rfl⟩
  rw [← hn0] at d1
  have HW := Lib.hid hw1
  have HN0 := Lib.hid hn0
  have h1 := h.below hb1
  have c0 : w1.cell? ⟨pb, 0, none⟩ = some (.map (some nb)) := cell_in h1.mem.blk rfl
  have c1 : w1.cell? ⟨pb, 1, none⟩ = some (.map (some cb)) := cell_in h1.mem.blk rfl
  have r0 : w1.cell? ⟨n0, 0, none⟩ = some (.int .u32 0) := cell_in d1 rfl
  have r1 : w1.cell? ⟨n0, 1, none⟩ = some (.slice none 0 0) := cell_in d1 rfl
  have f0 : ∀ i, w1.frozen? ⟨n0, i, none⟩ = false := fun i => free_in d1 i
  have hlt0 : n0 < w1.heap.size := (Array.getElem?_eq_some_iff.1 d1).1
  have ra0 : ∀ o, (w1.alloc o).cell? ⟨n0, 0, none⟩ = some (.int .u32 0) := fun o => cell_in ((Below.heap_alloc w1 o n0 hlt0).trans d1) rfl
  have ra1 : ∀ o, (w1.alloc o).cell? ⟨n0, 1, none⟩ = some (.slice none 0 0) := fun o => cell_in ((Below.heap_alloc w1 o n0 hlt0).trans d1) rfl
  have fa : ∀ o i, (w1.alloc o).frozen? ⟨n0, i, none⟩ = false := fun o i => free_in ((Below.heap_alloc w1 o n0 hlt0).trans d1) i
  have HI := Lib.hid (isNone_some c1)
  have HB1 := Lib.hid hb1
  have HD1 := Lib.hid d1
  have HS1 := Lib.hid hs1
  have H1 := Lib.hid h1
  have hl := h1.mem.lookName a
  have hzl := zero_cl
  cases hn : A.nm a with
  | none =>
    rw [hn] at hl
    simp only [Option.map_none, Option.getD_none, Option.isSome_none] at hl
    have HN := Lib.hid hn
    clear hn hb1 d1 hs1 hw1 hn0 h1 h hlt0
    go_enter Try.func19, Try.ntmps19
    go_upto_region 1 with fail
    rw [← HW.out, ← HN0.out]
    go_wp2_with (go_at_call 18; refine HI.out.mono ?_; rintro e w' ⟨rfl, rfl⟩)
    have HEnd : Hid (∀ U : World, U = ((w'.alloc (.cells #[.int .u32 (a : Int)] 23)).setCell ⟨n0, 0, none⟩ (.int .u32 (a : Int))).setCell ⟨n0, 1, none⟩ (.slice (some ⟨w'.heap.size, 0, none⟩) 1 1) →
        U.heap[n0]? = some (.cells #[.int .u32 (a : Int), .slice (some ⟨w'.heap.size, 0, none⟩) 1 1] 50 (0, 0)) ∧ ToldR U w.heap.size A cl a ⟨a, some ⟨w'.heap.size, 0, none⟩, 1, 1⟩ ∧ Below w.heap.size w U) := Lib.hid (by
      rintro U rfl
      have e0 := (Below.heap_alloc w' (.cells #[.int .u32 (a : Int)] 23) n0 (Array.getElem?_eq_some_iff.1 HD1.out).1).trans HD1.out
      have e1 : ((w'.alloc (.cells #[.int .u32 (a : Int)] 23)).setCell ⟨n0, 0, none⟩ (.int .u32 (a : Int))).heap[n0]? = _ := heap_setCell_same _ n0 0 _ _ _ e0
      have e2 : (((w'.alloc (.cells #[.int .u32 (a : Int)] 23)).setCell ⟨n0, 0, none⟩ (.int .u32 (a : Int))).setCell ⟨n0, 1, none⟩ (.slice (some ⟨w'.heap.size, 0, none⟩) 1 1)).heap[n0]? = _ := heap_setCell_same _ n0 1 _ _ _ e1
      have hne : n0 ≠ w'.heap.size := by rw [HS1.out, HN0.out]; omega
      refine ⟨e2, ⟨by simp only [lookA, HN.out], by simp only [lookA, HN.out]; rfl, ?_, .inl ⟨HN.out, fun x hx => by cases hx; show w.heap.size ≤ w'.heap.size; rw [HS1.out]; omega⟩⟩, ?_⟩
      · have hr := row_one w' (.int .u32 (a : Int)) 23
        simp only [lookA, HN.out]
        refine hr.kept fun x hx => ?_
        cases hx
        rw [Below.heap_setCell _ _ _ _ (fun e => hne e.symm), Below.heap_setCell _ _ _ _ (fun e => hne e.symm)]
      · have hs : ∀ X : World, Below w.heap.size w X → ∀ i v, Below w.heap.size w (X.setCell ⟨n0, i, none⟩ v) := fun X hX i v => hX.trans ((Turned.set (S := fun k => k = n0) (w := X) (a := ⟨n0, i, none⟩) rfl v).below hX.size (fun k hk => by rw [hk, HN0.out]; exact Nat.le_refl _))
        exact hs _ (hs _ (HB1.out.alloc (by rw [HS1.out]; omega) _) 0 _) 1 _)
    refine bodyPost_ret (results_tmp_cell rfl _ _ _ n0 50 #[.int .u32 (a : Int), .slice (some ⟨w'.heap.size, 0, none⟩) 1 1] (0, 0) _ rfl (HEnd.out _ rfl).1 Try.underlying50 (by kernel_rfl)) rfl ?_
    exact ⟨⟨a, some ⟨w'.heap.size, 0, none⟩, 1, 1⟩, by simp only [lookA, HN.out]; rfl, (HEnd.out _ rfl).2.1, (HEnd.out _ rfl).2.2⟩
  | some n =>
    rw [hn] at hl
    simp only [Option.map_some, Option.getD_some, Option.isSome_some] at hl
    obtain ⟨⟨m, ns⟩, hab⟩ := Option.isSome_iff_exists.1 (h1.named a n hn)
    have hlst := h1.lists n
    rw [hab] at hlst
    obtain ⟨ao, cap, hcl, hrow, hsb⟩ := hlst
    have hla : lookA A a = (n, m, ns) := by simp only [lookA, hn, hab]; rfl
    have h1d := h1.below (Below.refl _ _).drew
    have hc := h1d.mem.lookClique n
    rw [hcl] at hc
    simp only [Option.map_some, Option.getD_some] at hc
    change _ = Result.ok (Value.agg #[.int .u32 (m : Int), .slice ao ns.length cap]) _ at hc
    have c1d : w1.drew.cell? ⟨pb, 1, none⟩ = some (.map (some cb)) := c1
    have r0d : w1.drew.cell? ⟨n0, 0, none⟩ = some (.int .u32 0) := r0
    have r1d : w1.drew.cell? ⟨n0, 1, none⟩ = some (.slice none 0 0) := r1
    have f0d : ∀ i, w1.drew.frozen? ⟨n0, i, none⟩ = false := f0
    have HN := Lib.hid hn
    have HLa := Lib.hid hla
    have HCl := Lib.hid hcl
    have HRow := Lib.hid hrow
    have HLt : Hid (∀ x, ao = some x → x.block < w.heap.size) := Lib.hid (fun x hx => h.lt _ (hsb x hx))
    have hcl2 := runfield_cl
    clear hn hb1 d1 hs1 hw1 hn0 h1 h hlt0 h1d hla hcl hrow hsb hab ra0 ra1 fa
    go_enter Try.func19, Try.ntmps19
    go_upto_region 1 with fail
    rw [← HW.out, ← HN0.out]
    go_upto_region 4 with (go_at_call 18; refine HI.out.mono ?_; rintro e w' ⟨rfl, rfl⟩)
    go_region_with fail
    have HEnd : Hid (∀ U : World, U = ((w'.setCell ⟨n0, 0, none⟩ (.int .u32 (m : Int))).setCell ⟨n0, 1, none⟩ (.slice ao ns.length cap)).drew →
        U.heap[n0]? = some (.cells #[.int .u32 (m : Int), .slice ao ns.length cap] 50 (0, 0)) ∧ ToldR U w.heap.size A cl a ⟨m, ao, ns.length, cap⟩ ∧ Below w.heap.size w U) := Lib.hid (by
      rintro U rfl
      have e1 : (w'.setCell ⟨n0, 0, none⟩ (.int .u32 (m : Int))).heap[n0]? = _ := heap_setCell_same _ n0 0 _ _ _ HD1.out
      have e2 : ((w'.setCell ⟨n0, 0, none⟩ (.int .u32 (m : Int))).setCell ⟨n0, 1, none⟩ (.slice ao ns.length cap)).heap[n0]? = _ := heap_setCell_same _ n0 1 _ _ _ e1
      refine ⟨e2, ⟨by rw [HLa.out], by rw [HLa.out], ?_, .inr ⟨by rw [HLa.out]; exact HN.out, by rw [HLa.out]; exact HCl.out⟩⟩, ?_⟩
      · rw [HLa.out]
        refine HRow.out.kept fun x hx => ?_
        have hx2 : x.block < w.heap.size := HLt.out x hx
        show ((w'.setCell ⟨n0, 0, none⟩ (.int .u32 (m : Int))).setCell ⟨n0, 1, none⟩ (.slice ao ns.length cap)).heap[x.block]? = _
        rw [Below.heap_setCell _ _ _ _ (fun e => by rw [e] at hx2; rw [HN0.out] at hx2; exact Nat.lt_irrefl _ hx2), Below.heap_setCell _ _ _ _ (fun e => by rw [e] at hx2; rw [HN0.out] at hx2; exact Nat.lt_irrefl _ hx2)]
      · have hs : ∀ X : World, Below w.heap.size w X → ∀ i v, Below w.heap.size w (X.setCell ⟨n0, i, none⟩ v) := fun X hX i v => hX.trans ((Turned.set (S := fun k => k = n0) (w := X) (a := ⟨n0, i, none⟩) rfl v).below hX.size (fun k hk => by rw [hk, HN0.out]; exact Nat.le_refl _))
        exact (hs _ (hs _ HB1.out 0 _) 1 _).drew)
    go_wp2
    refine bodyPost_ret (results_tmp_cell rfl _ _ _ n0 50 #[.int .u32 (m : Int), .slice ao ns.length cap] (0, 0) _ rfl (HEnd.out _ rfl).1 Try.underlying50 (by kernel_rfl)) rfl ?_
    exact ⟨⟨m, ao, ns.length, cap⟩, by rw [HLa.out]; rfl, (HEnd.out _ rfl).2.1, (HEnd.out _ rfl).2.2⟩
end Go.Proofs.Ytjbfjglomonanaa

/-
  CONTRACTS OF Clique AND Len.
-/

namespace Go.Proofs.Ytjbfjglomonanaa
open Go.RowKit
set_option linter.unusedVariables false
set_option linter.unusedSimpArgs false

theorem nums_of_row {W : World} {ao : Option Addr} {cap : Nat} {ns : List Nat} (h : RowK W 23 1 ao ns.length cap (u32C ns)) : NumsR W ao ns := fun hl => by
  obtain ⟨g, o, e, hc, _⟩ := h.at_ hl
  exact ⟨g, o, e, fun j k hj => hc j _ (by unfold u32C; rw [List.getElem?_map, hj]; rfl)⟩
/-- A number's clique, in order. -/
def cliqueL (A : PartA) (a : Nat) : List Nat := if a = 0 then [] else (lookA A a).2.2.mergeSort fun x y => decide (x ≤ y)
section
variable {w : World} {S : Nat → Prop} {pb nb cb : Nat} {A : PartA} {cl : Nat → Option ClD}
set_option maxRecDepth 100000 in
theorem cliqueOf_any (h : PartI w S pb nb cb A cl) (a : Nat) (hl : (lookA A a).2.2.length ≤ 1000000) : Calls Try.prog 13 #[.pointer (some ⟨pb, 0, none⟩), .int .u32 (a : Int)] w fun e w' =>
    ∃ ao cap, e = .returned (.slice ao (cliqueL A a).length cap) ∧ NumsR w' ao (cliqueL A a) ∧ Below w.heap.size w w' := by
  by_cases h0 : a = 0
  · subst h0
    have he : cliqueL A 0 = [] := rfl
    rw [he]
    have e1 : (((0 : Nat) : Int) == 0) = true := by decide
    clear h hl he
    go_enter Try.func13, Try.ntmps13
    go_wp2
    go_ret
    exact ⟨none, 0, rfl, fun h => by simp at h, Below.refl _ _⟩
  · have he : cliqueL A a = (lookA A a).2.2.mergeSort fun x y => decide (x ≤ y) := if_neg h0
    have e1 : ((a : Int) == 0) = false := by rw [beq_eq_false_iff_ne]; omega
    have HC := Lib.hid (clique_any h a)
    have HE := Lib.hid he
    have HL := Lib.hid hl
    clear h he h0 hl
    have hzl := zero_cl
    go_enter Try.func13, Try.ntmps13
    go_upto_region 4 with (go_at_call 19; refine HC.out.mono ?_; rintro e w1 ⟨c, rfl, h1, h2⟩; replace h1 := Lib.hid h1; replace h2 := Lib.hid h2)
    have hb1 := (Below.refl w1.heap.size w1).alloc (Nat.le_refl _) (.cells #[.int .u32 (c.least : Int), .slice c.ao c.len c.cap] 50)
    have HSo : Hid (Calls Try.prog 22 #[.agg #[.int .u32 (c.least : Int), .slice c.ao c.len c.cap]] (w1.alloc (.cells #[.int .u32 (c.least : Int), .slice c.ao c.len c.cap] 50)) fun e w' =>
        ∃ ao cap, e = .returned (.slice ao (cliqueL A a).length cap) ∧ NumsR w' ao (cliqueL A a) ∧ Below w.heap.size w w') := Lib.hid (by
      obtain ⟨_, hlen, hrow, _⟩ := h1.out
      have hb2 := hb1
      rw [hlen] at hrow hb2 ⊢
      have hn := (nums_of_row hrow).below hb2
      refine (cliqueSorted_any hn HL.out).mono ?_
      rintro e w' ⟨ao, cap, rfl, h5, _, h6⟩
      refine ⟨ao, cap, ?_, by rw [HE.out]; exact h5, h2.out.trans ((hb2.mono h2.out.size).trans (h6.mono (Nat.le_trans h2.out.size hb2.size)))⟩
      rw [HE.out, List.length_mergeSort])
    clear hb1
    go_wp2_with (go_at_call 22; refine HSo.out.mono ?_; rintro e w2 ⟨ao, cap, rfl, h3, h4⟩; replace h3 := Lib.hid h3; replace h4 := Lib.hid h4)
    go_ret
    exact ⟨ao, cap, rfl, h3.out, h4.out⟩
set_option maxRecDepth 100000 in
theorem len_any (h : PartI w S pb nb cb A cl) : Calls Try.prog 15 #[.pointer (some ⟨pb, 0, none⟩)] w fun e w' =>
    (∃ ks : List Nat, e = .returned (.int .i64 (ks.length : Int)) ∧ ks.Nodup ∧ ∀ r, r ∈ ks ↔ (cl r).isSome = true) ∧ w' = w := by
  have c1 : w.cell? ⟨pb, 1, none⟩ = some (.map (some cb)) := cell_in h.mem.blk rfl
  have HI := Lib.hid (isNone_some c1)
  obtain ⟨es, ck, hb, h1, h2, h3, _⟩ := h.mem.cliques
  have hln : (Builtin.len_ #[46] 3 #[.map (some cb)]).run Try.prog w = .ok (.int .i64 (es.size : Int)) w := by
    simp [Builtin.len_, run_underlying Try.underlying46, MapKept.run_getObj_map hb, Result.andThen, goInt]
  have HKs : Hid (∃ ks : List Nat, (es.size : Int) = (ks.length : Int) ∧ ks.Nodup ∧ ∀ r, r ∈ ks ↔ (cl r).isSome = true) := Lib.hid (by
    have hkey : ∀ l : List MapEntry, (∀ x ∈ l, ∃ r v, x.key = keyU r ∧ x.val = clV v ∧ cl r = some v) → (l.map (·.key)).Nodup → ∃ ks : List Nat, l.length = ks.length ∧ ks.Nodup ∧ (∀ r, r ∈ ks ↔ ∃ x ∈ l, x.key = keyU r) := by
      intro l
      induction l with
      | nil => exact fun _ _ => ⟨[], rfl, by simp, fun r => by simp⟩
      | cons x l ih =>
        intro ha hn
        rw [List.map_cons, List.nodup_cons] at hn
        obtain ⟨ks, e1, e2, e3⟩ := ih (fun y hy => ha y (by simp [hy])) hn.2
        obtain ⟨r, v, hk, _, _⟩ := ha x (by simp)
        refine ⟨r :: ks, by simp [e1], ?_, fun q => ?_⟩
        · rw [List.nodup_cons]
          refine ⟨fun hr => ?_, e2⟩
          obtain ⟨y, hy, hky⟩ := (e3 r).1 hr
          exact hn.1 (List.mem_map.2 ⟨y, hy, hky.trans hk.symm⟩)
        · rw [List.mem_cons, e3]
          constructor
          · rintro (rfl | ⟨y, hy, hky⟩)
            · exact ⟨x, by simp, hk⟩
            · exact ⟨y, by simp [hy], hky⟩
          · rintro ⟨y, hy, hky⟩
            rcases List.mem_cons.1 hy with rfl | hy
            · exact .inl (keyU_inj (hky.symm.trans hk))
            · exact .inr ⟨y, hy, hky⟩
    obtain ⟨ks, e1, e2, e3⟩ := hkey es.toList h1 h3
    refine ⟨ks, by rw [← e1]; simp, e2, fun r => ?_⟩
    rw [e3]
    constructor
    · rintro ⟨x, hx, hk⟩
      obtain ⟨q, v, hk2, _, hc⟩ := h1 x hx
      obtain rfl := keyU_inj (hk2.symm.trans hk)
      rw [hc]
      rfl
    · intro hs
      obtain ⟨v, hv⟩ := Option.isSome_iff_exists.1 hs
      exact h2 r v hv)
  clear h h1 h2 h3 hb
  go_enter Try.func15, Try.ntmps15
  go_wp2_with (go_at_call 18; refine HI.out.mono ?_; rintro e w' ⟨rfl, rfl⟩)
  go_ret
  obtain ⟨ks, e1, e2, e3⟩ := HKs.out
  exact ⟨⟨ks, by rw [e1]; rfl, e2, e3⟩, rfl⟩
end
end Go.Proofs.Ytjbfjglomonanaa

