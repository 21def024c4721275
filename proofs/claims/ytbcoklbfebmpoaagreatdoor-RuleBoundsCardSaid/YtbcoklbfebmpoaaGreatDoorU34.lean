/-
  WHAT THE PROOF STANDS ON, a part of it: LexRead.
-/
import Derived.Test.YtbcoklbfebmpoaaGreatDoorU33
import Derived.Deep.DeepCutAuto


/-
  THE CONTRACT OF named, of an IRI and of a Blank.
-/
namespace Go.Proofs.YtbcoklbfebmpoaaGreatDoor
open Go.RowKit
open Utf Term Lex
set_option linter.unusedVariables false
set_option linter.unusedSimpArgs false

abbrev termC (k : Int) (t x : ByteArray) : Array Value := #[.int .i64 k, .string t, .string x]
theorem may_at (k : Int) (t x : ByteArray) (v : Bool) (hv : mayS k t x = v) (ht : t.size ≤ 1000000000000) (hx : x.size ≤ 1000000000000) (w : World) (he : LexEnv w) :
    Calls Tryz.prog 34 #[.agg (termC k t x)] w fun e w' => e = .returned (.bool v) ∧ Below w.heap.size w w' := by
  subst hv
  obtain ⟨m, hm⟩ := he.len
  exact may_term k t x ht hx m w hm

set_option maxRecDepth 100000 in
set_option maxHeartbeats 8000000 in
theorem named_iri (t0 tt te : ByteArray) (p : Int) (mv : Value) (v : Bool) (hm : mayS 1 tt te = v) (ht : tt.size ≤ 1000000000000) (hx : te.size ≤ 1000000000000) (w : World) (he : LexEnv w) :
    Calls Tryz.prog 145 #[.agg (symC 1 t0 1 tt te p), mv] w fun e w' => e = .returned (.tuple #[.agg (termC 1 tt te), .bool v]) ∧ Below w.heap.size w w' := by
  have hB : Below w.heap.size w (((w.alloc (.cells (symC 1 t0 1 tt te p) 64)).alloc (.cells zeroTermC 31)).alloc (.cells (termC 1 tt te) 31)) := below_next (below_next (below_lex _ _) (below_lex _ _)) (below_lex _ _)
  have hZ : BlockAt (((w.alloc (.cells (symC 1 t0 1 tt te p) 64)).alloc (.cells zeroTermC 31)).alloc (.cells (termC 1 tt te) 31)) (w.heap.size + 1) zeroTermC 31 := by
    have := (block_new (w.alloc (.cells (symC 1 t0 1 tt te p) 64)) zeroTermC 31).alloc (.cells (termC 1 tt te) 31)
    rwa [World.size_alloc] at this
  have hT : BlockAt (((w.alloc (.cells (symC 1 t0 1 tt te p) 64)).alloc (.cells zeroTermC 31)).alloc (.cells (termC 1 tt te) 31)) (w.heap.size + 1 + 1) (termC 1 tt te) 31 := by
    have := block_new ((w.alloc (.cells (symC 1 t0 1 tt te p) 64)).alloc (.cells zeroTermC 31)) (termC 1 tt te) 31
    rwa [World.size_alloc, World.size_alloc] at this
  obtain ⟨W0, hW0⟩ : ∃ W0, W0 = (((w.alloc (.cells (symC 1 t0 1 tt te p) 64)).alloc (.cells zeroTermC 31)).alloc (.cells (termC 1 tt te) 31)) := ⟨_, rfl⟩
  rw [← hW0] at hB hZ hT
  have HM : Hid (∀ n, Calls Tryz.prog 34 #[.agg (termC 1 tt te)] (W0.drewN n) fun e w' => e = .returned (.bool v) ∧ Below W0.heap.size W0 w') := Lib.hid (fun n => (may_at 1 tt te v hm ht hx (W0.drewN n) (he.below (hB.trans ((lex_drewN _ W0 n).mono hB.size)))).mono fun e w' h => ⟨h.1, (lex_drewN W0.heap.size W0 n).trans h.2⟩)
  have HB := Lib.hid hB
  have HZ := Lib.hid hZ
  have HT := Lib.hid hT
  have HW0 := Lib.hid hW0
  clear hB hZ hT hm he hW0
  go_enter Tryz.func145, Tryz.ntmps145
  go_wp2
  rw [← HW0.out]
  have x0 := HT.out.cell (j := 0) rfl
  have x1 := HT.out.cell (j := 1) rfl
  have x2 := HT.out.cell (j := 2) rfl
  go_region_with ((go_at_call 34; refine (HM.out _).mono ?_; rintro e y ⟨rfl, hY⟩; have k0 := (HZ.out.kept hY).cell (j := 0) rfl; have k1 := (HZ.out.kept hY).cell (j := 1) rfl; have k2 := (HZ.out.kept hY).cell (j := 2) rfl; have kf : ∀ j, y.frozen? ⟨w.heap.size + 1, j, none⟩ = false := fun j => (HZ.out.kept hY).free j; have z0 := (HT.out.kept hY).cell (j := 0) rfl; have z1 := (HT.out.kept hY).cell (j := 1) rfl; have z2 := (HT.out.kept hY).cell (j := 2) rfl))
  all_goals
    have HB1 := Lib.hid (HB.out.trans (hY.mono HB.out.size))
    have HZ1 := Lib.hid (HZ.out.kept hY)
    clear hY
    go_wp2
    refine bodyPost_ret (results_lex rfl _ _ _ (w.heap.size + 1) 31 _ (0, 0) _ rfl (HZ1.out.set3 _ _ _) Tryz.underlying31 (by kernel_rfl)) rfl ⟨rfl, ((HB1.out.setCell (Nat.le_succ _) _).setCell (Nat.le_succ _) _).setCell (Nat.le_succ _) _⟩
set_option maxRecDepth 100000 in
set_option maxHeartbeats 8000000 in
theorem named_blank (t0 tt te : ByteArray) (p : Int) (mv : Value) (v : Bool) (hm : mayS 2 tt te = v) (ht : tt.size ≤ 1000000000000) (hx : te.size ≤ 1000000000000) (w : World) (he : LexEnv w) :
    Calls Tryz.prog 145 #[.agg (symC 2 t0 2 tt te p), mv] w fun e w' => e = .returned (.tuple #[.agg (termC 2 tt te), .bool v]) ∧ Below w.heap.size w w' := by
  have hB : Below w.heap.size w (((w.alloc (.cells (symC 2 t0 2 tt te p) 64)).alloc (.cells zeroTermC 31)).alloc (.cells (termC 2 tt te) 31)) := below_next (below_next (below_lex _ _) (below_lex _ _)) (below_lex _ _)
  have hZ : BlockAt (((w.alloc (.cells (symC 2 t0 2 tt te p) 64)).alloc (.cells zeroTermC 31)).alloc (.cells (termC 2 tt te) 31)) (w.heap.size + 1) zeroTermC 31 := by
    have := (block_new (w.alloc (.cells (symC 2 t0 2 tt te p) 64)) zeroTermC 31).alloc (.cells (termC 2 tt te) 31)
    rwa [World.size_alloc] at this
  have hT : BlockAt (((w.alloc (.cells (symC 2 t0 2 tt te p) 64)).alloc (.cells zeroTermC 31)).alloc (.cells (termC 2 tt te) 31)) (w.heap.size + 1 + 1) (termC 2 tt te) 31 := by
    have := block_new ((w.alloc (.cells (symC 2 t0 2 tt te p) 64)).alloc (.cells zeroTermC 31)) (termC 2 tt te) 31
    rwa [World.size_alloc, World.size_alloc] at this
  obtain ⟨W0, hW0⟩ : ∃ W0, W0 = (((w.alloc (.cells (symC 2 t0 2 tt te p) 64)).alloc (.cells zeroTermC 31)).alloc (.cells (termC 2 tt te) 31)) := ⟨_, rfl⟩
  rw [← hW0] at hB hZ hT
  have HM : Hid (∀ n, Calls Tryz.prog 34 #[.agg (termC 2 tt te)] (W0.drewN n) fun e w' => e = .returned (.bool v) ∧ Below W0.heap.size W0 w') := Lib.hid (fun n => (may_at 2 tt te v hm ht hx (W0.drewN n) (he.below (hB.trans ((lex_drewN _ W0 n).mono hB.size)))).mono fun e w' h => ⟨h.1, (lex_drewN W0.heap.size W0 n).trans h.2⟩)
  have HB := Lib.hid hB
  have HZ := Lib.hid hZ
  have HT := Lib.hid hT
  have HW0 := Lib.hid hW0
  clear hB hZ hT hm he hW0
  go_enter Tryz.func145, Tryz.ntmps145
  go_wp2
  rw [← HW0.out]
  have x0 := HT.out.cell (j := 0) rfl
  have x1 := HT.out.cell (j := 1) rfl
  have x2 := HT.out.cell (j := 2) rfl
  go_region_with ((go_at_call 34; refine (HM.out _).mono ?_; rintro e y ⟨rfl, hY⟩; have k0 := (HZ.out.kept hY).cell (j := 0) rfl; have k1 := (HZ.out.kept hY).cell (j := 1) rfl; have k2 := (HZ.out.kept hY).cell (j := 2) rfl; have kf : ∀ j, y.frozen? ⟨w.heap.size + 1, j, none⟩ = false := fun j => (HZ.out.kept hY).free j; have z0 := (HT.out.kept hY).cell (j := 0) rfl; have z1 := (HT.out.kept hY).cell (j := 1) rfl; have z2 := (HT.out.kept hY).cell (j := 2) rfl))
  all_goals
    have HB1 := Lib.hid (HB.out.trans (hY.mono HB.out.size))
    have HZ1 := Lib.hid (HZ.out.kept hY)
    clear hY
    go_wp2
    refine bodyPost_ret (results_lex rfl _ _ _ (w.heap.size + 1) 31 _ (0, 0) _ rfl (HZ1.out.set3 _ _ _) Tryz.underlying31 (by kernel_rfl)) rfl ⟨rfl, ((HB1.out.setCell (Nat.le_succ _) _).setCell (Nat.le_succ _) _).setCell (Nat.le_succ _) _⟩
end Go.Proofs.YtbcoklbfebmpoaaGreatDoor

/-
  THE CONTRACT OF whole, of a term's own symbols.
-/
namespace Go.Proofs.YtbcoklbfebmpoaaGreatDoor
open Go.RowKit
open Utf Term Lex
set_option linter.unusedVariables false
set_option linter.unusedSimpArgs false

def SixAt (w : World) (g : Nat) (o : Nat) (cs : Array Value) : Prop := ∀ j, j < 6 → w.cell? ⟨g, o + j, none⟩ = some (cs.getD j undef)
theorem SixAt.below {w u : World} {g o : Nat} {cs : Array Value} (h : SixAt w g o cs) (k : Below w.heap.size w u) : SixAt u g o cs := fun j hj => cell_kept_b k (h j hj)

theorem type_not_xsd (t x : ByteArray) (h : mayS 5 t x = true) : (x.toList != (⟨#[104, 116, 116, 112, 58, 47, 47, 119, 119, 119, 46, 119, 51, 46, 111, 114, 103, 47, 50, 48, 48, 49, 47, 88, 77, 76, 83, 99, 104, 101, 109, 97, 35, 115, 116, 114, 105, 110, 103]⟩ : ByteArray).toList) = true ∧ (x.toList == [104, 116, 116, 112, 58, 47, 47, 119, 119, 119, 46, 119, 51, 46, 111, 114, 103, 47, 50, 48, 48, 49, 47, 88, 77, 76, 83, 99, 104, 101, 109, 97, 35, 115, 116, 114, 105, 110, 103]) = false := by
  have e : mayS 5 t x = (isTypeB (bs x) && isValueB (bs t)) := rfl
  have hx : ¬ bs x = xsd := by
    rw [e, Bool.and_eq_true] at h
    have := h.1
    unfold isTypeB at this
    rw [Bool.and_eq_true] at this
    simpa using this.1
  have hne : (x.toList != (⟨#[104, 116, 116, 112, 58, 47, 47, 119, 119, 119, 46, 119, 51, 46, 111, 114, 103, 47, 50, 48, 48, 49, 47, 88, 77, 76, 83, 99, 104, 101, 109, 97, 35, 115, 116, 114, 105, 110, 103]⟩ : ByteArray).toList) = true := by
    rw [bne, str_beq]
    have hk : bs (⟨#[104, 116, 116, 112, 58, 47, 47, 119, 119, 119, 46, 119, 51, 46, 111, 114, 103, 47, 50, 48, 48, 49, 47, 88, 77, 76, 83, 99, 104, 101, 109, 97, 35, 115, 116, 114, 105, 110, 103]⟩ : ByteArray) = xsd := by decide +kernel
    rw [hk]
    simpa using hx
  refine ⟨hne, beq_eq_false_iff_ne.2 fun h => ?_⟩
  rw [h, toList_eq] at hne
  simp at hne

end Go.Proofs.YtbcoklbfebmpoaaGreatDoor

/-
  THE CONTRACT OF Read, where the first length is a term.
-/
namespace Go.Proofs.YtbcoklbfebmpoaaGreatDoor
open Go.RowKit
open Utf Term Lex
set_option linter.unusedVariables false
set_option linter.unusedSimpArgs false

theorem results_read {fn : Func} {p u v : Tmp} (h : fn.results = #[.cell p 31, .tmp u, .tmp v]) (tmps : Array Value) (w : World) (g : Nat) (x0 x1 x2 : Value)
    (hp : tmps.getD p undef = .pointer (some ⟨g, 0, none⟩)) (hx : BlockAt w g #[x0, x1, x2] 31) :
    (results fn tmps).run Tryz.prog w = .ok (.tuple #[.agg #[x0, x1, x2], tmps.getD u undef, tmps.getD v undef]) w := by
  have h1 := run_loadVar_row (P := Tryz.prog) w g 31 31 #[x0, x1, x2] (0, 0) _ hx Tryz.underlying31 rfl (by kernel_rfl)
  have hp' : tmps[p]?.getD undef = .pointer (some ⟨g, 0, none⟩) := by simpa using hp
  simp only [results, h]
  simp [Sem.run_bind, Result.andThen, hp', asAddr, h1]

end Go.Proofs.YtbcoklbfebmpoaaGreatDoor

