/-
  WHAT THE PROOF STANDS ON, a part of it: LexRead.
-/
import Derived.Test.YtfldpfomecjdkaaGreatDoorS30
import Derived.Deep.DeepCutAuto


/-
  THE CONTRACT OF named, of an IRI and of a Blank.
-/
namespace Go.Proofs.YtfldpfomecjdkaaGreatDoor
open Go.RowKit
open Utf Term Lex
set_option linter.unusedVariables false
set_option linter.unusedSimpArgs false

abbrev termC (k : Int) (t x : ByteArray) : Array Value := #[.int .i64 k, .string t, .string x]
theorem may_at (k : Int) (t x : ByteArray) (v : Bool) (hv : mayS k t x = v) (ht : t.size ≤ 1000000000000) (hx : x.size ≤ 1000000000000) (w : World) (he : LexEnv w) :
    Calls Tryz.prog 58 #[.agg (termC k t x)] w fun e w' => e = .returned (.bool v) ∧ Below w.heap.size w w' := by
  subst hv
  obtain ⟨m, hm⟩ := he.len
  exact may_term k t x ht hx m w hm

set_option maxRecDepth 100000 in
set_option maxHeartbeats 8000000 in
theorem named_iri (t0 tt te : ByteArray) (p : Int) (mv : Value) (v : Bool) (hm : mayS 1 tt te = v) (ht : tt.size ≤ 1000000000000) (hx : te.size ≤ 1000000000000) (w : World) (he : LexEnv w) :
    Calls Tryz.prog 57 #[.agg (symC 1 t0 1 tt te p), mv] w fun e w' => e = .returned (.tuple #[.agg (termC 1 tt te), .bool v]) ∧ Below w.heap.size w w' := by
  have hB : Below w.heap.size w (((w.alloc (.cells (symC 1 t0 1 tt te p) 43)).alloc (.cells zeroTermC 31)).alloc (.cells (termC 1 tt te) 31)) := below_next (below_next (below_lex _ _) (below_lex _ _)) (below_lex _ _)
  have hZ : BlockAt (((w.alloc (.cells (symC 1 t0 1 tt te p) 43)).alloc (.cells zeroTermC 31)).alloc (.cells (termC 1 tt te) 31)) (w.heap.size + 1) zeroTermC 31 := by
    have := (block_new (w.alloc (.cells (symC 1 t0 1 tt te p) 43)) zeroTermC 31).alloc (.cells (termC 1 tt te) 31)
    rwa [World.size_alloc] at this
  have hT : BlockAt (((w.alloc (.cells (symC 1 t0 1 tt te p) 43)).alloc (.cells zeroTermC 31)).alloc (.cells (termC 1 tt te) 31)) (w.heap.size + 1 + 1) (termC 1 tt te) 31 := by
    have := block_new ((w.alloc (.cells (symC 1 t0 1 tt te p) 43)).alloc (.cells zeroTermC 31)) (termC 1 tt te) 31
    rwa [World.size_alloc, World.size_alloc] at this
  obtain ⟨W0, hW0⟩ : ∃ W0, W0 = (((w.alloc (.cells (symC 1 t0 1 tt te p) 43)).alloc (.cells zeroTermC 31)).alloc (.cells (termC 1 tt te) 31)) := ⟨_, rfl⟩
  rw [← hW0] at hB hZ hT
  have HM : Hid (∀ n, Calls Tryz.prog 58 #[.agg (termC 1 tt te)] (W0.drewN n) fun e w' => e = .returned (.bool v) ∧ Below W0.heap.size W0 w') := Lib.hid (fun n => (may_at 1 tt te v hm ht hx (W0.drewN n) (he.below (hB.trans ((lex_drewN _ W0 n).mono hB.size)))).mono fun e w' h => ⟨h.1, (lex_drewN W0.heap.size W0 n).trans h.2⟩)
  have HB := Lib.hid hB
  have HZ := Lib.hid hZ
  have HT := Lib.hid hT
  have HW0 := Lib.hid hW0
  clear hB hZ hT hm he hW0
  go_enter Tryz.func57, Tryz.ntmps57
  go_wp2
  rw [← HW0.out]
  have x0 := HT.out.cell (j := 0) rfl
  have x1 := HT.out.cell (j := 1) rfl
  have x2 := HT.out.cell (j := 2) rfl
  go_region_with ((go_at_call 58; refine (HM.out _).mono ?_; rintro e y ⟨rfl, hY⟩; have k0 := (HZ.out.kept hY).cell (j := 0) rfl; have k1 := (HZ.out.kept hY).cell (j := 1) rfl; have k2 := (HZ.out.kept hY).cell (j := 2) rfl; have kf : ∀ j, y.frozen? ⟨w.heap.size + 1, j, none⟩ = false := fun j => (HZ.out.kept hY).free j; have z0 := (HT.out.kept hY).cell (j := 0) rfl; have z1 := (HT.out.kept hY).cell (j := 1) rfl; have z2 := (HT.out.kept hY).cell (j := 2) rfl))
  all_goals
    have HB1 := Lib.hid (HB.out.trans (hY.mono HB.out.size))
    have HZ1 := Lib.hid (HZ.out.kept hY)
    clear hY
    go_wp2
    refine bodyPost_ret (results_lex rfl _ _ _ (w.heap.size + 1) 31 _ (0, 0) _ rfl (HZ1.out.set3 _ _ _) Tryz.underlying31 (by kernel_rfl)) rfl ⟨rfl, ((HB1.out.setCell (Nat.le_succ _) _).setCell (Nat.le_succ _) _).setCell (Nat.le_succ _) _⟩
set_option maxRecDepth 100000 in
set_option maxHeartbeats 8000000 in
theorem named_blank (t0 tt te : ByteArray) (p : Int) (mv : Value) (v : Bool) (hm : mayS 2 tt te = v) (ht : tt.size ≤ 1000000000000) (hx : te.size ≤ 1000000000000) (w : World) (he : LexEnv w) :
    Calls Tryz.prog 57 #[.agg (symC 2 t0 2 tt te p), mv] w fun e w' => e = .returned (.tuple #[.agg (termC 2 tt te), .bool v]) ∧ Below w.heap.size w w' := by
  have hB : Below w.heap.size w (((w.alloc (.cells (symC 2 t0 2 tt te p) 43)).alloc (.cells zeroTermC 31)).alloc (.cells (termC 2 tt te) 31)) := below_next (below_next (below_lex _ _) (below_lex _ _)) (below_lex _ _)
  have hZ : BlockAt (((w.alloc (.cells (symC 2 t0 2 tt te p) 43)).alloc (.cells zeroTermC 31)).alloc (.cells (termC 2 tt te) 31)) (w.heap.size + 1) zeroTermC 31 := by
    have := (block_new (w.alloc (.cells (symC 2 t0 2 tt te p) 43)) zeroTermC 31).alloc (.cells (termC 2 tt te) 31)
    rwa [World.size_alloc] at this
  have hT : BlockAt (((w.alloc (.cells (symC 2 t0 2 tt te p) 43)).alloc (.cells zeroTermC 31)).alloc (.cells (termC 2 tt te) 31)) (w.heap.size + 1 + 1) (termC 2 tt te) 31 := by
    have := block_new ((w.alloc (.cells (symC 2 t0 2 tt te p) 43)).alloc (.cells zeroTermC 31)) (termC 2 tt te) 31
    rwa [World.size_alloc, World.size_alloc] at this
  obtain ⟨W0, hW0⟩ : ∃ W0, W0 = (((w.alloc (.cells (symC 2 t0 2 tt te p) 43)).alloc (.cells zeroTermC 31)).alloc (.cells (termC 2 tt te) 31)) := ⟨_, rfl⟩
  rw [← hW0] at hB hZ hT
  have HM : Hid (∀ n, Calls Tryz.prog 58 #[.agg (termC 2 tt te)] (W0.drewN n) fun e w' => e = .returned (.bool v) ∧ Below W0.heap.size W0 w') := Lib.hid (fun n => (may_at 2 tt te v hm ht hx (W0.drewN n) (he.below (hB.trans ((lex_drewN _ W0 n).mono hB.size)))).mono fun e w' h => ⟨h.1, (lex_drewN W0.heap.size W0 n).trans h.2⟩)
  have HB := Lib.hid hB
  have HZ := Lib.hid hZ
  have HT := Lib.hid hT
  have HW0 := Lib.hid hW0
  clear hB hZ hT hm he hW0
  go_enter Tryz.func57, Tryz.ntmps57
  go_wp2
  rw [← HW0.out]
  have x0 := HT.out.cell (j := 0) rfl
  have x1 := HT.out.cell (j := 1) rfl
  have x2 := HT.out.cell (j := 2) rfl
  go_region_with ((go_at_call 58; refine (HM.out _).mono ?_; rintro e y ⟨rfl, hY⟩; have k0 := (HZ.out.kept hY).cell (j := 0) rfl; have k1 := (HZ.out.kept hY).cell (j := 1) rfl; have k2 := (HZ.out.kept hY).cell (j := 2) rfl; have kf : ∀ j, y.frozen? ⟨w.heap.size + 1, j, none⟩ = false := fun j => (HZ.out.kept hY).free j; have z0 := (HT.out.kept hY).cell (j := 0) rfl; have z1 := (HT.out.kept hY).cell (j := 1) rfl; have z2 := (HT.out.kept hY).cell (j := 2) rfl))
  all_goals
    have HB1 := Lib.hid (HB.out.trans (hY.mono HB.out.size))
    have HZ1 := Lib.hid (HZ.out.kept hY)
    clear hY
    go_wp2
    refine bodyPost_ret (results_lex rfl _ _ _ (w.heap.size + 1) 31 _ (0, 0) _ rfl (HZ1.out.set3 _ _ _) Tryz.underlying31 (by kernel_rfl)) rfl ⟨rfl, ((HB1.out.setCell (Nat.le_succ _) _).setCell (Nat.le_succ _) _).setCell (Nat.le_succ _) _⟩
end Go.Proofs.YtfldpfomecjdkaaGreatDoor

/-
  THE CONTRACT OF whole, of a term's own symbols.
-/
namespace Go.Proofs.YtfldpfomecjdkaaGreatDoor
open Go.RowKit
open Utf Term Lex
set_option linter.unusedVariables false
set_option linter.unusedSimpArgs false

def SixAt (w : World) (g : Nat) (o : Nat) (cs : Array Value) : Prop := ∀ j, j < 6 → w.cell? ⟨g, o + j, none⟩ = some (cs.getD j undef)
theorem SixAt.below {w u : World} {g o : Nat} {cs : Array Value} (h : SixAt w g o cs) (k : Below w.heap.size w u) : SixAt u g o cs := fun j hj => cell_kept_b k (h j hj)

set_option maxRecDepth 100000 in
set_option maxHeartbeats 8000000 in
theorem whole_iri (g : Nat) (cap : Nat) (hcap : 1 ≤ cap) (t0 tt te : ByteArray) (p : Int) (mv : Value) (hm : mayS 1 tt te = true) (ht : tt.size ≤ 1000000000000) (hx : te.size ≤ 1000000000000) (w : World) (he : LexEnv w) (hc : SixAt w g 0 (symC 1 t0 1 tt te p)) :
    Calls Tryz.prog 29 #[.slice (some ⟨g, 0, none⟩) 1 cap, mv] w fun e w' => e = .returned (.tuple #[.agg (termC 1 tt te), .bool true]) ∧ Below w.heap.size w w' := by
  have hB : Below w.heap.size w (w.alloc (.cells zeroTermC 31)) := below_lex _ _
  have hZ : BlockAt (w.alloc (.cells zeroTermC 31)) w.heap.size zeroTermC 31 := block_new _ _ _
  obtain ⟨W0, hW0⟩ : ∃ W0, W0 = w.alloc (.cells zeroTermC 31) := ⟨_, rfl⟩
  rw [← hW0] at hB hZ
  have HM := Lib.hid (named_iri t0 tt te p mv true hm ht hx W0 (he.below hB))
  have hc0 := hc.below hB
  have x0 : W0.cell? ⟨g, 0, none⟩ = some (.int .i64 1) := hc0 0 (by omega)
  have x1 : W0.cell? ⟨g, 1, none⟩ = some (.string t0) := hc0 1 (by omega)
  have x2 : W0.cell? ⟨g, 2, none⟩ = some (.int .i64 1) := hc0 2 (by omega)
  have x3 : W0.cell? ⟨g, 3, none⟩ = some (.string tt) := hc0 3 (by omega)
  have x4 : W0.cell? ⟨g, 4, none⟩ = some (.string te) := hc0 4 (by omega)
  have x5 : W0.cell? ⟨g, 5, none⟩ = some (.int .i64 p) := hc0 5 (by omega)
  have HB := Lib.hid hB
  have HZ := Lib.hid hZ
  have HW0 := Lib.hid hW0
  clear hB hZ hm he hc hc0 hW0
  go_enter Tryz.func29, Tryz.ntmps29
  go_upto_region 1 with fail
  rw [← HW0.out]
  go_wp2_with (go_at_call 57; refine HM.out.mono ?_; rintro e y ⟨rfl, hY⟩; have k0 := (HZ.out.kept hY).cell (j := 0) rfl; have k1 := (HZ.out.kept hY).cell (j := 1) rfl; have k2 := (HZ.out.kept hY).cell (j := 2) rfl; have kf : ∀ j, y.frozen? ⟨w.heap.size, j, none⟩ = false := fun j => (HZ.out.kept hY).free j)
  have HB1 := Lib.hid (HB.out.trans (hY.mono HB.out.size))
  have HZ1 := Lib.hid (HZ.out.kept hY)
  refine bodyPost_ret (results_lex rfl _ _ _ w.heap.size 31 _ (0, 0) _ rfl (HZ1.out.set3 _ _ _) Tryz.underlying31 (by kernel_rfl)) rfl ⟨rfl, ((HB1.out.setCell (Nat.le_refl _) _).setCell (Nat.le_refl _) _).setCell (Nat.le_refl _) _⟩

set_option maxRecDepth 100000 in
set_option maxHeartbeats 8000000 in
theorem whole_blank (g : Nat) (cap : Nat) (hcap : 1 ≤ cap) (t0 tt te : ByteArray) (p : Int) (mv : Value) (hm : mayS 2 tt te = true) (ht : tt.size ≤ 1000000000000) (hx : te.size ≤ 1000000000000) (w : World) (he : LexEnv w) (hc : SixAt w g 0 (symC 2 t0 2 tt te p)) :
    Calls Tryz.prog 29 #[.slice (some ⟨g, 0, none⟩) 1 cap, mv] w fun e w' => e = .returned (.tuple #[.agg (termC 2 tt te), .bool true]) ∧ Below w.heap.size w w' := by
  have hB : Below w.heap.size w (w.alloc (.cells zeroTermC 31)) := below_lex _ _
  have hZ : BlockAt (w.alloc (.cells zeroTermC 31)) w.heap.size zeroTermC 31 := block_new _ _ _
  obtain ⟨W0, hW0⟩ : ∃ W0, W0 = w.alloc (.cells zeroTermC 31) := ⟨_, rfl⟩
  rw [← hW0] at hB hZ
  have HM := Lib.hid (named_blank t0 tt te p mv true hm ht hx W0 (he.below hB))
  have hc0 := hc.below hB
  have x0 : W0.cell? ⟨g, 0, none⟩ = some (.int .i64 2) := hc0 0 (by omega)
  have x1 : W0.cell? ⟨g, 1, none⟩ = some (.string t0) := hc0 1 (by omega)
  have x2 : W0.cell? ⟨g, 2, none⟩ = some (.int .i64 2) := hc0 2 (by omega)
  have x3 : W0.cell? ⟨g, 3, none⟩ = some (.string tt) := hc0 3 (by omega)
  have x4 : W0.cell? ⟨g, 4, none⟩ = some (.string te) := hc0 4 (by omega)
  have x5 : W0.cell? ⟨g, 5, none⟩ = some (.int .i64 p) := hc0 5 (by omega)
  have HB := Lib.hid hB
  have HZ := Lib.hid hZ
  have HW0 := Lib.hid hW0
  clear hB hZ hm he hc hc0 hW0
  go_enter Tryz.func29, Tryz.ntmps29
  go_upto_region 1 with fail
  rw [← HW0.out]
  go_wp2_with (go_at_call 57; refine HM.out.mono ?_; rintro e y ⟨rfl, hY⟩; have k0 := (HZ.out.kept hY).cell (j := 0) rfl; have k1 := (HZ.out.kept hY).cell (j := 1) rfl; have k2 := (HZ.out.kept hY).cell (j := 2) rfl; have kf : ∀ j, y.frozen? ⟨w.heap.size, j, none⟩ = false := fun j => (HZ.out.kept hY).free j)
  have HB1 := Lib.hid (HB.out.trans (hY.mono HB.out.size))
  have HZ1 := Lib.hid (HZ.out.kept hY)
  refine bodyPost_ret (results_lex rfl _ _ _ w.heap.size 31 _ (0, 0) _ rfl (HZ1.out.set3 _ _ _) Tryz.underlying31 (by kernel_rfl)) rfl ⟨rfl, ((HB1.out.setCell (Nat.le_refl _) _).setCell (Nat.le_refl _) _).setCell (Nat.le_refl _) _⟩

set_option maxRecDepth 100000 in
set_option maxHeartbeats 8000000 in
theorem whole_string (g : Nat) (cap : Nat) (hcap : 1 ≤ cap) (tt : ByteArray) (tk : Int) (e1 e2 : ByteArray) (p : Int) (mv : Value) (hm : mayS 3 tt ⟨#[]⟩ = true) (ht : tt.size ≤ 1000000000000) (w : World) (he : LexEnv w) (hc : SixAt w g 0 (symC 3 tt tk e1 e2 p)) :
    Calls Tryz.prog 29 #[.slice (some ⟨g, 0, none⟩) 1 cap, mv] w fun e w' => e = .returned (.tuple #[.agg (termC 3 tt ⟨#[]⟩), .bool true]) ∧ Below w.heap.size w w' := by
  have hB : Below w.heap.size w ((w.alloc (.cells zeroTermC 31)).alloc (.cells (termC 3 tt ⟨#[]⟩) 31)) := below_next (below_lex _ _) (below_lex _ _)
  have hZ : BlockAt ((w.alloc (.cells zeroTermC 31)).alloc (.cells (termC 3 tt ⟨#[]⟩) 31)) w.heap.size zeroTermC 31 := (block_new w zeroTermC _).alloc _
  have hT : BlockAt ((w.alloc (.cells zeroTermC 31)).alloc (.cells (termC 3 tt ⟨#[]⟩) 31)) (w.heap.size + 1) (termC 3 tt ⟨#[]⟩) 31 := by
    have := block_new (w.alloc (.cells zeroTermC 31)) (termC 3 tt ⟨#[]⟩) 31
    rwa [World.size_alloc] at this
  have c0 : w.cell? ⟨g, 0, none⟩ = some (.int .i64 3) := hc 0 (by omega)
  have c1 : w.cell? ⟨g, 1, none⟩ = some (.string tt) := hc 1 (by omega)
  have d0 : (w.alloc (.cells zeroTermC 31)).cell? ⟨g, 0, none⟩ = some (.int .i64 3) := cell_kept_b (below_lex _ _) c0
  have d1 : (w.alloc (.cells zeroTermC 31)).cell? ⟨g, 1, none⟩ = some (.string tt) := cell_kept_b (below_lex _ _) c1
  obtain ⟨W0, hW0⟩ : ∃ W0, W0 = ((w.alloc (.cells zeroTermC 31)).alloc (.cells (termC 3 tt ⟨#[]⟩) 31)) := ⟨_, rfl⟩
  rw [← hW0] at hB hZ hT
  have HM : Hid (∀ n, Calls Tryz.prog 58 #[.agg (termC 3 tt ⟨#[]⟩)] (W0.drewN n) fun e w' => e = .returned (.bool true) ∧ Below W0.heap.size W0 w') := Lib.hid (fun n => (may_at 3 tt ⟨#[]⟩ true hm ht (by decide) (W0.drewN n) (he.below (hB.trans ((lex_drewN _ W0 n).mono hB.size)))).mono fun e w' h => ⟨h.1, (lex_drewN W0.heap.size W0 n).trans h.2⟩)
  have HB := Lib.hid hB
  have HZ := Lib.hid hZ
  have HT := Lib.hid hT
  have HW0 := Lib.hid hW0
  clear hB hZ hT hm he hW0 hc
  go_enter Tryz.func29, Tryz.ntmps29
  go_upto_region 16 with fail
  rw [← HW0.out]
  have x0 := HT.out.cell (j := 0) rfl
  have x1 := HT.out.cell (j := 1) rfl
  have x2 := HT.out.cell (j := 2) rfl
  go_region_with ((go_at_call 58; refine (HM.out _).mono ?_; rintro e y ⟨rfl, hY⟩; have k0 := (HZ.out.kept hY).cell (j := 0) rfl; have k1 := (HZ.out.kept hY).cell (j := 1) rfl; have k2 := (HZ.out.kept hY).cell (j := 2) rfl; have kf : ∀ j, y.frozen? ⟨w.heap.size, j, none⟩ = false := fun j => (HZ.out.kept hY).free j; have z0 := (HT.out.kept hY).cell (j := 0) rfl; have z1 := (HT.out.kept hY).cell (j := 1) rfl; have z2 := (HT.out.kept hY).cell (j := 2) rfl))
  all_goals
    have HB1 := Lib.hid (HB.out.trans (hY.mono HB.out.size))
    have HZ1 := Lib.hid (HZ.out.kept hY)
    clear hY
    go_wp2
    refine bodyPost_ret (results_lex rfl _ _ _ w.heap.size 31 _ (0, 0) _ rfl (HZ1.out.set3 _ _ _) Tryz.underlying31 (by kernel_rfl)) rfl ⟨rfl, ((HB1.out.setCell (Nat.le_refl _) _).setCell (Nat.le_refl _) _).setCell (Nat.le_refl _) _⟩

set_option maxRecDepth 100000 in
set_option maxHeartbeats 8000000 in
theorem whole_lang (g : Nat) (cap : Nat) (hcap : 2 ≤ cap) (tt xx : ByteArray) (tk1 tk2 : Int) (e1 e2 e3 e4 : ByteArray) (p1 p2 : Int) (mv : Value) (hm : mayS 4 tt xx = true) (ht : tt.size ≤ 1000000000000) (hx : xx.size ≤ 1000000000000) (w : World) (he : LexEnv w) (hc : SixAt w g 0 (symC 3 tt tk1 e1 e2 p1)) (hd : SixAt w g 6 (symC 4 xx tk2 e3 e4 p2)) :
    Calls Tryz.prog 29 #[.slice (some ⟨g, 0, none⟩) 2 cap, mv] w fun e w' => e = .returned (.tuple #[.agg (termC 4 tt xx), .bool true]) ∧ Below w.heap.size w w' := by
  have hB : Below w.heap.size w ((w.alloc (.cells zeroTermC 31)).alloc (.cells (termC 3 tt ⟨#[]⟩) 31)) := below_next (below_lex _ _) (below_lex _ _)
  have hZ : BlockAt ((w.alloc (.cells zeroTermC 31)).alloc (.cells (termC 3 tt ⟨#[]⟩) 31)) w.heap.size zeroTermC 31 := (block_new w zeroTermC _).alloc _
  have hT : BlockAt ((w.alloc (.cells zeroTermC 31)).alloc (.cells (termC 3 tt ⟨#[]⟩) 31)) (w.heap.size + 1) (termC 3 tt ⟨#[]⟩) 31 := by
    have := block_new (w.alloc (.cells zeroTermC 31)) (termC 3 tt ⟨#[]⟩) 31
    rwa [World.size_alloc] at this
  have c0 : w.cell? ⟨g, 0, none⟩ = some (.int .i64 3) := hc 0 (by omega)
  have c1 : w.cell? ⟨g, 1, none⟩ = some (.string tt) := hc 1 (by omega)
  have d0 : (w.alloc (.cells zeroTermC 31)).cell? ⟨g, 0, none⟩ = some (.int .i64 3) := cell_kept_b (below_lex _ _) c0
  have d1 : (w.alloc (.cells zeroTermC 31)).cell? ⟨g, 1, none⟩ = some (.string tt) := cell_kept_b (below_lex _ _) c1
  have e60 := cell_kept_b hB (show w.cell? ⟨g, 6, none⟩ = some (.int .i64 4) from hd 0 (by omega))
  have e61 := cell_kept_b hB (show w.cell? ⟨g, 7, none⟩ = some (.string xx) from hd 1 (by omega))
  obtain ⟨W0, hW0⟩ : ∃ W0, W0 = ((w.alloc (.cells zeroTermC 31)).alloc (.cells (termC 3 tt ⟨#[]⟩) 31)) := ⟨_, rfl⟩
  rw [← hW0] at hB hZ hT e60 e61
  have HE := Lib.hid he
  have HB := Lib.hid hB
  have HZ := Lib.hid hZ
  have HT := Lib.hid hT
  have HW0 := Lib.hid hW0
  have HMa := Lib.hid hm
  have HX := Lib.hid hx
  have gne : g ≠ w.heap.size + 1 := fun hh => by
    have := (hc 0 (by omega)); rw [hh] at this; simp [World.cell?] at this
  clear hB hZ hT hm he hW0 hc hd
  go_enter Tryz.func29, Tryz.ntmps29
  go_upto_region 7 with fail
  rw [← HW0.out]
  go_upto_region 9 with fail
  have x0 := HT.out.cell (j := 0) rfl
  have x1 := HT.out.cell (j := 1) rfl
  have x2 := HT.out.cell (j := 2) rfl
  have kf : ∀ j, W0.frozen? ⟨w.heap.size + 1, j, none⟩ = false := fun j => HT.out.free j
  go_region_with fail
  all_goals
    have hB1 : Below w.heap.size w ((W0.setCell ⟨w.heap.size + 1, 0, none⟩ (.int .i64 4)).setCell ⟨w.heap.size + 1, 2, none⟩ (.string xx)).drew := ((HB.out.setCell (Nat.le_succ _) _).setCell (Nat.le_succ _) _).trans (lex_drewN _ _ 1)
    have hZ1 : BlockAt ((W0.setCell ⟨w.heap.size + 1, 0, none⟩ (.int .i64 4)).setCell ⟨w.heap.size + 1, 2, none⟩ (.string xx)).drew w.heap.size zeroTermC 31 := ((HZ.out.other (by omega) _ _).other (by omega) _ _).drew 1
    have hT1 : BlockAt ((W0.setCell ⟨w.heap.size + 1, 0, none⟩ (.int .i64 4)).setCell ⟨w.heap.size + 1, 2, none⟩ (.string xx)).drew (w.heap.size + 1) (termC 4 tt xx) 31 := ((HT.out.set 0 _).set 2 _).drew 1
    clear x0 x1 x2 kf c0 c1 d0 d1 e60 e61 HB HZ HT HW0
    generalize ((W0.setCell ⟨w.heap.size + 1, 0, none⟩ (.int .i64 4)).setCell ⟨w.heap.size + 1, 2, none⟩ (.string xx)).drew = W1 at *
    have HM : Hid (∀ n, Calls Tryz.prog 58 #[.agg (termC 4 tt xx)] (W1.drewN n) fun e w' => e = .returned (.bool true) ∧ Below W1.heap.size W1 w') := Lib.hid (fun n => (may_at 4 tt xx true HMa.out ht hx (W1.drewN n) (HE.out.below (hB1.trans ((lex_drewN _ W1 n).mono hB1.size)))).mono fun e w' h => ⟨h.1, (lex_drewN W1.heap.size W1 n).trans h.2⟩)
    have HB := Lib.hid hB1
    have HZ := Lib.hid hZ1
    have HT := Lib.hid hT1
    clear hB1 hZ1 hT1
    go_upto_region 16 with fail
    have x0 := HT.out.cell (j := 0) rfl
    have x1 := HT.out.cell (j := 1) rfl
    have x2 := HT.out.cell (j := 2) rfl
    go_region_with ((go_at_call 58; refine (HM.out _).mono ?_; rintro e y ⟨rfl, hY⟩; have k0 := (HZ.out.kept hY).cell (j := 0) rfl; have k1 := (HZ.out.kept hY).cell (j := 1) rfl; have k2 := (HZ.out.kept hY).cell (j := 2) rfl; have kf : ∀ j, y.frozen? ⟨w.heap.size, j, none⟩ = false := fun j => (HZ.out.kept hY).free j; have z0 := (HT.out.kept hY).cell (j := 0) rfl; have z1 := (HT.out.kept hY).cell (j := 1) rfl; have z2 := (HT.out.kept hY).cell (j := 2) rfl))
    all_goals
      have HB1 := Lib.hid (HB.out.trans (hY.mono HB.out.size))
      have HZ1 := Lib.hid (HZ.out.kept hY)
      clear hY
      go_wp2
      refine bodyPost_ret (results_lex rfl _ _ _ w.heap.size 31 _ (0, 0) _ rfl (HZ1.out.set3 _ _ _) Tryz.underlying31 (by kernel_rfl)) rfl ⟨rfl, ((HB1.out.setCell (Nat.le_refl _) _).setCell (Nat.le_refl _) _).setCell (Nat.le_refl _) _⟩

theorem type_not_xsd (t x : ByteArray) (h : mayS 5 t x = true) : (x.toList != (⟨#[104, 116, 116, 112, 58, 47, 47, 119, 119, 119, 46, 119, 51, 46, 111, 114, 103, 47, 50, 48, 48, 49, 47, 88, 77, 76, 83, 99, 104, 101, 109, 97, 35, 115, 116, 114, 105, 110, 103]⟩ : ByteArray).toList) = true ∧ (x.toList == [104, 116, 116, 112, 58, 47, 47, 119, 119, 119, 46, 119, 51, 46, 111, 114, 103, 47, 50, 48, 48, 49, 47, 88, 77, 76, 83, 99, 104, 101, 109, 97, 35, 115, 116, 114, 105, 110, 103]) = false := by
  have e : mayS 5 t x = (isTypeB (bs x) && isValueB (bs t)) := rfl
  have hx : ¬ bs x = xsd := by
    rw [e, Bool.and_eq_true] at h
    have := h.1
    unfold isTypeB at this
    rw [Bool.and_eq_true] at this
    simpa using this.1
  have hne : (x.toList != (⟨#[104, 116, 116, 112, 58, 47, 47, 119, 119, 119, 46, 119, 51, 46, 111, 114, 103, 47, 50, 48, 48, 49, 47, 88, 77, 76, 83, 99, 104, 101, 109, 97, 35, 115, 116, 114, 105, 110, 103]⟩ : ByteArray).toList) = true := by
    rw [bne, str_beq]
    have hk : bs (⟨#[104, 116, 116, 112, 58, 47, 47, 119, 119, 119, 46, 119, 51, 46, 111, 114, 103, 47, 50, 48, 48, 49, 47, 88, 77, 76, 83, 99, 104, 101, 109, 97, 35, 115, 116, 114, 105, 110, 103]⟩ : ByteArray) = xsd := by decide +kernel
    rw [hk]
    simpa using hx
  refine ⟨hne, beq_eq_false_iff_ne.2 fun h => ?_⟩
  rw [h, toList_eq] at hne
  simp at hne

set_option maxRecDepth 100000 in
set_option maxHeartbeats 8000000 in
theorem whole_typed (g : Nat) (cap : Nat) (hcap : 3 ≤ cap) (tt xx t3 x3 : ByteArray) (tk1 tk2 : Int) (e1 e2 e3 e4 : ByteArray) (p1 p2 p3 : Int) (mv : Value) (hm : mayS 5 tt xx = true) (hm1 : mayS 1 xx x3 = true) (ht : tt.size ≤ 1000000000000) (hx : xx.size ≤ 1000000000000) (hx3 : x3.size ≤ 1000000000000) (w : World) (he : LexEnv w) (hc : SixAt w g 0 (symC 3 tt tk1 e1 e2 p1)) (hd : SixAt w g 6 (symC 8 ⟨#[94, 94]⟩ tk2 e3 e4 p2)) (hf : SixAt w g 12 (symC 1 t3 1 xx x3 p3)) :
    Calls Tryz.prog 29 #[.slice (some ⟨g, 0, none⟩) 3 cap, mv] w fun e w' => e = .returned (.tuple #[.agg (termC 5 tt xx), .bool true]) ∧ Below w.heap.size w w' := by
  have hB : Below w.heap.size w ((w.alloc (.cells zeroTermC 31)).alloc (.cells (termC 3 tt ⟨#[]⟩) 31)) := below_next (below_lex _ _) (below_lex _ _)
  have hZ : BlockAt ((w.alloc (.cells zeroTermC 31)).alloc (.cells (termC 3 tt ⟨#[]⟩) 31)) w.heap.size zeroTermC 31 := (block_new w zeroTermC _).alloc _
  have hT : BlockAt ((w.alloc (.cells zeroTermC 31)).alloc (.cells (termC 3 tt ⟨#[]⟩) 31)) (w.heap.size + 1) (termC 3 tt ⟨#[]⟩) 31 := by
    have := block_new (w.alloc (.cells zeroTermC 31)) (termC 3 tt ⟨#[]⟩) 31
    rwa [World.size_alloc] at this
  have c0 : w.cell? ⟨g, 0, none⟩ = some (.int .i64 3) := hc 0 (by omega)
  have c1 : w.cell? ⟨g, 1, none⟩ = some (.string tt) := hc 1 (by omega)
  have d0 : (w.alloc (.cells zeroTermC 31)).cell? ⟨g, 0, none⟩ = some (.int .i64 3) := cell_kept_b (below_lex _ _) c0
  have d1 : (w.alloc (.cells zeroTermC 31)).cell? ⟨g, 1, none⟩ = some (.string tt) := cell_kept_b (below_lex _ _) c1
  have e60 := cell_kept_b hB (show w.cell? ⟨g, 6, none⟩ = some (.int .i64 8) from hd 0 (by omega))
  have e61 := cell_kept_b hB (show w.cell? ⟨g, 7, none⟩ = some (.string ⟨#[94, 94]⟩) from hd 1 (by omega))
  have e62 := cell_kept_b hB (show w.cell? ⟨g, 8, none⟩ = some (.int .i64 tk2) from hd 2 (by omega))
  have e63 := cell_kept_b hB (show w.cell? ⟨g, 9, none⟩ = some (.string e3) from hd 3 (by omega))
  have e64 := cell_kept_b hB (show w.cell? ⟨g, 10, none⟩ = some (.string e4) from hd 4 (by omega))
  have e65 := cell_kept_b hB (show w.cell? ⟨g, 11, none⟩ = some (.int .i64 p2) from hd 5 (by omega))
  have HF := Lib.hid (hf.below hB)
  obtain ⟨W0, hW0⟩ : ∃ W0, W0 = ((w.alloc (.cells zeroTermC 31)).alloc (.cells (termC 3 tt ⟨#[]⟩) 31)) := ⟨_, rfl⟩
  rw [← hW0] at hB hZ hT e60 e61 e62 e63 e64 e65 HF
  have HE := Lib.hid he
  have HB := Lib.hid hB
  have HZ := Lib.hid hZ
  have HT := Lib.hid hT
  have HW0 := Lib.hid hW0
  have HMa := Lib.hid hm
  have HMk := Lib.hid (markIs_at 8 ⟨#[94, 94]⟩ tk2 e3 e4 p2 ⟨#[94, 94]⟩ true (by decide) W0)
  have HN : Hid (∀ W, Below w.heap.size w W → Calls Tryz.prog 57 #[.agg (symC 1 t3 1 xx x3 p3), mv] W fun e w' => e = .returned (.tuple #[.agg (termC 1 xx x3), .bool true]) ∧ Below W.heap.size W w') := Lib.hid (fun W h => named_iri t3 xx x3 p3 mv true hm1 hx hx3 W (he.below h))
  clear hB hZ hT hm hm1 he hW0 hc hd hf
  go_enter Tryz.func29, Tryz.ntmps29
  go_upto_region 7 with fail
  rw [← HW0.out]
  go_upto_region 11 with (go_at_call 12; refine HMk.out.mono ?_; rintro e y ⟨rfl, hY⟩)
  have hB1 := HB.out.trans (hY.mono HB.out.size)
  have HZ1 := Lib.hid (HZ.out.kept hY)
  have HT1 := Lib.hid (HT.out.kept hY)
  have hF1 := HF.out.below hY
  clear e60 e61 e62 e63 e64 e65 c0 c1 d0 d1 HF hY HZ HT HB HW0
  have x0 : y.cell? ⟨g, 12, none⟩ = some (.int .i64 1) := hF1 0 (by omega)
  have x1 : y.cell? ⟨g, 13, none⟩ = some (.string t3) := hF1 1 (by omega)
  have x2 : y.cell? ⟨g, 14, none⟩ = some (.int .i64 1) := hF1 2 (by omega)
  have x3' : y.cell? ⟨g, 15, none⟩ = some (.string xx) := hF1 3 (by omega)
  have x4 : y.cell? ⟨g, 16, none⟩ = some (.string x3) := hF1 4 (by omega)
  have x5 : y.cell? ⟨g, 17, none⟩ = some (.int .i64 p3) := hF1 5 (by omega)
  have HNy := Lib.hid (HN.out y hB1)
  have HB1 := Lib.hid hB1
  clear hF1 hB1
  go_upto_region 14 with (go_at_call 57; refine HNy.out.mono ?_; rintro e z ⟨rfl, hV⟩)
  have hB2 : Below w.heap.size w (z.alloc (.cells #[.int .i64 1, .string xx, .string x3] 31)) := below_next (HB1.out.trans (hV.mono HB1.out.size)) (below_lex _ _)
  have hZ2 : BlockAt (z.alloc (.cells #[.int .i64 1, .string xx, .string x3] 31)) w.heap.size zeroTermC 31 := (HZ1.out.kept hV).alloc _
  have hT2 : BlockAt (z.alloc (.cells #[.int .i64 1, .string xx, .string x3] 31)) (w.heap.size + 1) (termC 3 tt ⟨#[]⟩) 31 := (HT1.out.kept hV).alloc _
  have hN2 : BlockAt (z.alloc (.cells #[.int .i64 1, .string xx, .string x3] 31)) z.heap.size #[.int .i64 1, .string xx, .string x3] 31 := block_new _ _ _
  clear x0 x1 x2 x3' x4 x5 hV HB1 HZ1 HT1 HNy HN HMk
  generalize z.alloc (.cells #[.int .i64 1, .string xx, .string x3] 31) = W2 at *
  have n1 := hN2.cell (j := 1) rfl
  have x0 := hT2.cell (j := 0) rfl
  have x1 := hT2.cell (j := 1) rfl
  have x2 := hT2.cell (j := 2) rfl
  have kf : ∀ j, W2.frozen? ⟨w.heap.size + 1, j, none⟩ = false := fun j => hT2.free j
  have HB2 := Lib.hid hB2
  have HZ2 := Lib.hid hZ2
  have HT2 := Lib.hid hT2
  clear hB2 hZ2 hT2 hN2
  have hne := (type_not_xsd tt xx HMa.out).2
  go_upto_region 15 with fail
  go_region_with fail
  all_goals
    have hB1 : Below w.heap.size w ((W2.setCell ⟨w.heap.size + 1, 0, none⟩ (.int .i64 5)).setCell ⟨w.heap.size + 1, 2, none⟩ (.string xx)).drew := ((HB2.out.setCell (Nat.le_succ _) _).setCell (Nat.le_succ _) _).trans (lex_drewN _ _ 1)
    have hZ1 : BlockAt ((W2.setCell ⟨w.heap.size + 1, 0, none⟩ (.int .i64 5)).setCell ⟨w.heap.size + 1, 2, none⟩ (.string xx)).drew w.heap.size zeroTermC 31 := ((HZ2.out.other (by omega) _ _).other (by omega) _ _).drew 1
    have hT1 : BlockAt ((W2.setCell ⟨w.heap.size + 1, 0, none⟩ (.int .i64 5)).setCell ⟨w.heap.size + 1, 2, none⟩ (.string xx)).drew (w.heap.size + 1) (termC 5 tt xx) 31 := ((HT2.out.set 0 _).set 2 _).drew 1
    clear x0 x1 x2 kf n1 HB2 HZ2 HT2
    generalize ((W2.setCell ⟨w.heap.size + 1, 0, none⟩ (.int .i64 5)).setCell ⟨w.heap.size + 1, 2, none⟩ (.string xx)).drew = W1 at *
    have HM : Hid (∀ n, Calls Tryz.prog 58 #[.agg (termC 5 tt xx)] (W1.drewN n) fun e w' => e = .returned (.bool true) ∧ Below W1.heap.size W1 w') := Lib.hid (fun n => (may_at 5 tt xx true HMa.out ht hx (W1.drewN n) (HE.out.below (hB1.trans ((lex_drewN _ W1 n).mono hB1.size)))).mono fun e w' h => ⟨h.1, (lex_drewN W1.heap.size W1 n).trans h.2⟩)
    have HB := Lib.hid hB1
    have HZ := Lib.hid hZ1
    have HT := Lib.hid hT1
    clear hB1 hZ1 hT1
    go_upto_region 16 with fail
    have x0 := HT.out.cell (j := 0) rfl
    have x1 := HT.out.cell (j := 1) rfl
    have x2 := HT.out.cell (j := 2) rfl
    go_region_with ((go_at_call 58; refine (HM.out _).mono ?_; rintro e y ⟨rfl, hY⟩; have k0 := (HZ.out.kept hY).cell (j := 0) rfl; have k1 := (HZ.out.kept hY).cell (j := 1) rfl; have k2 := (HZ.out.kept hY).cell (j := 2) rfl; have kf : ∀ j, y.frozen? ⟨w.heap.size, j, none⟩ = false := fun j => (HZ.out.kept hY).free j; have z0 := (HT.out.kept hY).cell (j := 0) rfl; have z1 := (HT.out.kept hY).cell (j := 1) rfl; have z2 := (HT.out.kept hY).cell (j := 2) rfl))
    all_goals
      have HB1 := Lib.hid (HB.out.trans (hY.mono HB.out.size))
      have HZ1 := Lib.hid (HZ.out.kept hY)
      clear hY
      go_wp2
      refine bodyPost_ret (results_lex rfl _ _ _ w.heap.size 31 _ (0, 0) _ rfl (HZ1.out.set3 _ _ _) Tryz.underlying31 (by kernel_rfl)) rfl ⟨rfl, ((HB1.out.setCell (Nat.le_refl _) _).setCell (Nat.le_refl _) _).setCell (Nat.le_refl _) _⟩
end Go.Proofs.YtfldpfomecjdkaaGreatDoor

/-
  THE CONTRACT OF Read, where the first length is a term.
-/
namespace Go.Proofs.YtfldpfomecjdkaaGreatDoor
open Go.RowKit
open Utf Term Lex
set_option linter.unusedVariables false
set_option linter.unusedSimpArgs false

theorem results_read {fn : Func} {p u v : Tmp} (h : fn.results = #[.cell p 31, .tmp u, .tmp v]) (tmps : Array Value) (w : World) (g : Nat) (x0 x1 x2 : Value)
    (hp : tmps.getD p undef = .pointer (some ⟨g, 0, none⟩)) (hx : BlockAt w g #[x0, x1, x2] 31) :
    (results fn tmps).run Tryz.prog w = .ok (.tuple #[.agg #[x0, x1, x2], tmps.getD u undef, tmps.getD v undef]) w := by
  have h1 := run_loadVar_row (P := Tryz.prog) w g 31 31 #[x0, x1, x2] (0, 0) _ hx Tryz.underlying31 rfl (by kernel_rfl)
  have hp' : tmps[p]?.getD undef = .pointer (some ⟨g, 0, none⟩) := by simpa using hp
  simp only [results, h]
  simp [Sem.run_bind, Result.andThen, hp', asAddr, h1]

set_option maxRecDepth 100000 in
set_option maxHeartbeats 8000000 in
theorem read_first (g : Nat) (n cap : Nat) (hn : 1 ≤ n) (hn3 : n ≤ 3) (hcap : n ≤ cap) (mv : Value) (k : Int) (t x : ByteArray) (w : World)
    (hW : ∀ W, Below w.heap.size w W → Calls Tryz.prog 29 #[.slice (some ⟨g, 0, none⟩) n cap, mv] W fun e w' => e = .returned (.tuple #[.agg (termC k t x), .bool true]) ∧ Below W.heap.size W w') :
    Calls Tryz.prog 8 #[.slice (some ⟨g, 0, none⟩) n cap, mv] w fun e w' => e = .returned (.tuple #[.agg (termC k t x), .int .i64 n, .int .i64 0]) ∧ Below w.heap.size w w' := by
  have HW := Lib.hid hW
  have hB : Below w.heap.size w (w.alloc (.cells zeroTermC 31)) := below_lex _ _
  have hZ : BlockAt (w.alloc (.cells zeroTermC 31)) w.heap.size zeroTermC 31 := block_new _ _ _
  obtain ⟨W0, hW0⟩ : ∃ W0, W0 = w.alloc (.cells zeroTermC 31) := ⟨_, rfl⟩
  rw [← hW0] at hB hZ
  have HC := Lib.hid (hW W0 hB)
  have HB := Lib.hid hB
  have HZ := Lib.hid hZ
  have HW0 := Lib.hid hW0
  clear hW hB hZ hW0 HW
  have b1 : (1 : Int) ≤ (n : Int) := by omega
  have b0 : decide ((0 : Int) < (n : Int)) = true := by simp; omega
  have b3 : (n : Int) ≤ 3 := by omega
  have bm : min (n : Int) 3 = (n : Int) := by omega
  have bc : (n : Int) ≤ (cap : Int) := by omega
  go_enter Tryz.func8, Tryz.ntmps8
  go_wp2_with fail
  rw [← HW0.out]
  refine wp_loop_rounds 1 ?_
  rw [rounds_succ]
  go_wp2_with (go_at_call 29; refine HC.out.mono ?_; rintro e y ⟨rfl, hY⟩; have k0 := fun o => ((HZ.out.kept hY).alloc o).cell (j := 0) rfl; have k1 := fun o => ((HZ.out.kept hY).alloc o).cell (j := 1) rfl; have k2 := fun o => ((HZ.out.kept hY).alloc o).cell (j := 2) rfl; have kf : ∀ o j, (y.alloc o).frozen? ⟨w.heap.size, j, none⟩ = false := fun o j => ((HZ.out.kept hY).alloc o).free j)
  have HB1 := Lib.hid (below_next (HB.out.trans (hY.mono HB.out.size)) (below_lex y (.cells #[.int .i64 k, .string t, .string x] 31)))
  have HZ1 := Lib.hid ((HZ.out.kept hY).alloc (.cells #[.int .i64 k, .string t, .string x] 31))
  refine bodyPost_ret (results_read rfl _ _ w.heap.size _ _ _ rfl (HZ1.out.set3 _ _ _)) rfl ⟨rfl, ((HB1.out.setCell (Nat.le_refl _) _).setCell (Nat.le_refl _) _).setCell (Nat.le_refl _) _⟩
end Go.Proofs.YtfldpfomecjdkaaGreatDoor
