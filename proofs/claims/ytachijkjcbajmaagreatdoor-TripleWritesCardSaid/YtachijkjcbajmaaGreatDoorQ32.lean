/-
  WHAT THE PROOF STANDS ON, a part of it: LexTake.
-/
import Derived.Test.YtachijkjcbajmaaGreatDoorQ29
import Derived.Test.YtachijkjcbajmaaGreatDoorQ25
/-
  CONTRACTS OF newReader, (*reader).take.
-/

namespace Go.Proofs.YtachijkjcbajmaaGreatDoor
open Go.RowKit
open Utf Term Lex
set_option linter.unusedVariables false
set_option linter.unusedSimpArgs false

/-- What the package's and the library's variables hold, as far as it matters. -/
structure LexEnv (W : World) : Prop where
  len : ∃ m, W.cell? ⟨1, 0, none⟩ = some (.int .i64 m)
  err : ErrVar W
  marks : MarksAt W
theorem LexEnv.below {w u : World} (h : LexEnv w) (k : Below w.heap.size w u) : LexEnv u :=
  ⟨let ⟨m, hm⟩ := h.len; ⟨m, cell_kept_b k hm⟩, h.err.below k, h.marks.below k⟩

abbrev bound (K rp : Nat) : Value := .func (.func K) #[.pointer (some ⟨rp, 0, none⟩)] #[]
abbrev takersC (rp : Nat) : Array Value := #[bound 78 rp, bound 79 rp, bound 80 rp, bound 81 rp, bound 82 rp, bound 83 rp, bound 84 rp, bound 85 rp]
def takerK (k : Nat) : Nat := [78, 79, 80, 81, 82, 83, 84, 85].getD k 0
theorem below8 {p : Nat → Prop} (h : p 0 ∧ p 1 ∧ p 2 ∧ p 3 ∧ p 4 ∧ p 5 ∧ p 6 ∧ p 7) : ∀ k, k < 8 → p k := by
  obtain ⟨h0, h1, h2, h3, h4, h5, h6, h7⟩ := h
  intro k hk
  match k, hk with
  | 0, _ => exact h0
  | 1, _ => exact h1
  | 2, _ => exact h2
  | 3, _ => exact h3
  | 4, _ => exact h4
  | 5, _ => exact h5
  | 6, _ => exact h6
  | 7, _ => exact h7
  | n + 8, h => omega
theorem taker_cell (rp : Nat) : ∀ k, k < 8 → (takersC rp)[k]? = some (bound (takerK k) rp) := below8 ⟨rfl, rfl, rfl, rfl, rfl, rfl, rfl, rfl⟩
theorem taker_enters : ∀ k, k < 8 → ∀ args w, (callFunc (takerK k) args).run Tryz.prog w = .ok (.enter (takerK k) args) w :=
  below8 ⟨enters_of Tryz.func78 (by kernel_rfl) rfl, enters_of Tryz.func79 (by kernel_rfl) rfl, enters_of Tryz.func80 (by kernel_rfl) rfl, enters_of Tryz.func81 (by kernel_rfl) rfl,
    enters_of Tryz.func82 (by kernel_rfl) rfl, enters_of Tryz.func83 (by kernel_rfl) rfl, enters_of Tryz.func84 (by kernel_rfl) rfl, enters_of Tryz.func85 (by kernel_rfl) rfl⟩
theorem taker_any (hE : EscOK) (rp : Nat) (s : ByteArray) (a : Nat) (w : World) (h : RdAt w rp s a) (hv : LexEnv w) : ∀ k, k < 8 →
    Calls Tryz.prog (takerK k) #[.pointer (some ⟨rp, 0, none⟩)] w fun e w' => e = tookE ((takers ((bs s).drop a)).getD k .bad) ∧ Below w.heap.size w w' := by
  obtain ⟨m, hm⟩ := hv.len
  exact below8 ⟨lexMark_any rp s a w h hv.marks, name_any rp s a w h, word_any rp s a w h, variable_any rp s a w h, quoted_any2 hE rp s a w h hv.err, iri_any2 hE rp s a m w h hm hv.err, blank_any rp s a m w h hm, lang_any rp s a m w h hm⟩

/-- None of the first k took anything. -/
def NoneTook (L : List Took) (k : Nat) : Prop := ∀ j, j < k → L.getD j .bad = .no
theorem NoneTook.next {L : List Took} {k : Nat} (h : NoneTook L k) (hk : L.getD k .bad = .no) : NoneTook L (k + 1) := fun j hj => by
  by_cases e : j = k
  · rw [e]; exact hk
  · exact h j (by omega)
theorem firstT_at : ∀ (L : List Took) (k : Nat), (∀ j, j < k → L.getD j .bad = .no) → L.getD k .bad ≠ .no → firstT L = L.getD k .bad
  | [], k, _, _ => by simp [firstT]
  | x :: L, 0, _, h => by
    rw [List.getD_cons_zero] at h ⊢
    cases x with
    | no => exact absurd rfl h
    | bad => rfl
    | got y n => rfl
  | x :: L, k + 1, hn, h => by
    have h0 := hn 0 (by omega)
    rw [List.getD_cons_zero] at h0
    rw [h0, List.getD_cons_succ]
    rw [List.getD_cons_succ] at h
    exact firstT_at L k (fun j hj => by have := hn (j + 1) (by omega); rwa [List.getD_cons_succ] at this) h
theorem firstT_end {L : List Took} (h : NoneTook L L.length) : firstT L = .bad := by
  have e : L.getD L.length .bad = .bad := by simp
  rw [firstT_at L L.length h (by rw [e]; intro h; cases h), e]

set_option maxRecDepth 100000 in
set_option maxHeartbeats 2000000 in
theorem newReader_any (s : ByteArray) (w : World) (hs : s.size ≤ 1000000000) :
    Calls Tryz.prog 58 #[.string s] w fun e w' => e = .returned (.pointer (some ⟨w.heap.size, 0, none⟩)) ∧ Rd w' w.heap.size s 0 (.slice (some ⟨w.heap.size + 1, 0, none⟩) 8 8) ∧ BlockAt w' (w.heap.size + 1) (takersC w.heap.size) 149 ∧ Below w.heap.size w w' ∧ w'.heap.size = w.heap.size + 2 := by
  have hmf : ∀ (fn : Fn) (first cap : Array Value) (w : World), (Instr.makeFunc fn first cap).run Tryz.prog w = .ok (.func fn first cap) w := fun _ _ _ _ => rfl
  go_enter Tryz.func58, Tryz.ntmps58
  go_wp2
  go_ret
  refine ⟨rfl, ⟨(block_new w _ _).alloc _, Nat.zero_le _, hs⟩, ?_, below_next (below_lex _ _) (below_lex _ _), by simp⟩
  have h := block_new (w.alloc (.cells #[.string s, .int .i64 0, .slice (some ⟨w.heap.size + 1, 0, none⟩) 8 8] 118)) (takersC w.heap.size) 149
  rwa [World.size_alloc] at h

theorem BlockAt.other6 {W : World} {g b : Nat} {cs : Array Value} {t : TypeId} (h : BlockAt W g cs t) (hb : b ≠ g) (x0 x1 x2 x3 x4 x5 : Value) :
    BlockAt ((((((W.setCell ⟨b, 0, none⟩ x0).setCell ⟨b, 1, none⟩ x1).setCell ⟨b, 2, none⟩ x2).setCell ⟨b, 3, none⟩ x3).setCell ⟨b, 4, none⟩ x4).setCell ⟨b, 5, none⟩ x5) g cs t :=
  (((((h.other hb 0 _).other hb 1 _).other hb 2 _).other hb 3 _).other hb 4 _).other hb 5 _
theorem Moves.fresh {g : Nat} {u w : World} (h : Moves g u w) {b : Nat} (hb : u.heap.size ≤ b) (i : Nat) (x : Value) : Moves g u (w.setCell ⟨b, i, none⟩ x) :=
  ⟨h.os, h.tape, h.output, Nat.le_trans h.size (by simp [World.setCell]), fun k hk hn => (Below.heap_setCell _ _ _ _ (by show k ≠ b; omega)).trans (h.block k hk hn)⟩
theorem Moves.fresh6 {g : Nat} {u w : World} (h : Moves g u w) {b : Nat} (hb : u.heap.size ≤ b) (x0 x1 x2 x3 x4 x5 : Value) :
    Moves g u ((((((w.setCell ⟨b, 0, none⟩ x0).setCell ⟨b, 1, none⟩ x1).setCell ⟨b, 2, none⟩ x2).setCell ⟨b, 3, none⟩ x3).setCell ⟨b, 4, none⟩ x4).setCell ⟨b, 5, none⟩ x5) :=
  (((((h.fresh hb 0 _).fresh hb 1 _).fresh hb 2 _).fresh hb 3 _).fresh hb 4 _).fresh hb 5 _

/-- What take does. -/
def Taken (rp : Nat) (s : ByteArray) (a : Nat) (tv : Value) (w : World) (T : Took) (e : Ending) (w' : World) : Prop :=
  match T with
  | .got x n => e = .returned (symV { x with place := a }) ∧ Rd w' rp s (a + n) tv ∧ Moves rp w w'
  | _ => e = badE ∧ Below w.heap.size w w'

set_option maxRecDepth 100000 in
set_option maxHeartbeats 8000000 in
theorem take_any (hE : EscOK) (rp tb : Nat) (s : ByteArray) (a : Nat) (w : World) (h : Rd w rp s a (.slice (some ⟨tb, 0, none⟩) 8 8)) (ht : BlockAt w tb (takersC rp) 149) (hv : LexEnv w) :
    Calls Tryz.prog 88 #[.pointer (some ⟨rp, 0, none⟩)] w (Taken rp s a (.slice (some ⟨tb, 0, none⟩) 8 8) w (one ((bs s).drop a))) := by
  have hB0 := below_lex w (.cells zeroC 43)
  have hrp : rp < w.heap.size := (Array.getElem?_eq_some_iff.1 h.blk).1
  have c2 := (h.below hB0).blk.cell (j := 2) rfl
  have HB0 := Lib.hid hB0
  have HZ := Lib.hid (block_new w zeroC 43)
  have H := Lib.hid h
  have HT := Lib.hid ht
  have HV := Lib.hid hv
  have HE := Lib.hid hE
  obtain ⟨F, hF⟩ : ∃ F, F = Taken rp s a (.slice (some ⟨tb, 0, none⟩) 8 8) w (one ((bs s).drop a)) := ⟨_, rfl⟩
  rw [← hF]
  have HF := Lib.hid hF
  clear hB0 h ht hv hE hF
  go_enter Tryz.func88, Tryz.ntmps88
  go_wp2
  go_loopw [12] (fun i wr => ∃ k : Nat, k ≤ 8 ∧ i = .int .i64 k ∧ NoneTook (takers ((bs s).drop a)) k ∧ Below w.heap.size w wr ∧ BlockAt wr w.heap.size zeroC 43) (fun i _ => 8 - (intOf i).toNat)
  case atStart => exact ⟨0, by omega, rfl, fun j hj => by omega, HB0.out, HZ.out⟩
  case round =>
    obtain ⟨k, hk, rfl, hno, hB, hZ⟩ := hrel
    have HN := Lib.hid hno
    have HB := Lib.hid hB
    have HZk := Lib.hid hZ
    have hsz := hB.size
    clear hno hB hZ c2 HB0 HZ
    by_cases hlt : k < 8
    · have ck := (HT.out.kept HB.out).cell (taker_cell rp k hlt)
      have en := taker_enters k hlt
      have hC := taker_any HE.out rp s a wr (H.out.below HB.out).at_ (HV.out.below HB.out) k hlt
      cases hT : (takers ((bs s).drop a)).getD k .bad with
      | no =>
        rw [hT] at hC
        have hC' : Calls Tryz.prog (takerK k) #[.pointer (some ⟨rp, 0, none⟩)] wr fun e w' => e = .returned (.tuple #[.agg zeroC, .int .i64 0]) ∧ Below wr.heap.size wr w' := hC
        have HN2 := Lib.hid (HN.out.next hT)
        have HC := Lib.hid hC'
        clear hC hC' hT HN
        generalize takerK k = K at *
        go_wp2_with fail
        refine HC.out.mono ?_
        rintro e w1 ⟨rfl, hB1⟩
        have HB1 := Lib.hid (below_next HB.out hB1)
        have HZ1 := Lib.hid (HZk.out.kept hB1)
        clear hB1
        go_wp2
        go_roundw
        case rel => exact ⟨k + 1, by omega, by go_num, HN2.out, HB1.out.alloc HB1.out.size _, HZ1.out.alloc _⟩
        case measure => simp [intOf]; omega
      | bad =>
        rw [hT] at hC
        have hC' : Calls Tryz.prog (takerK k) #[.pointer (some ⟨rp, 0, none⟩)] wr fun e w' => e = badE ∧ Below wr.heap.size wr w' := hC
        have HX : Hid (∀ W, Below w.heap.size w W → F badE W) := Lib.hid (fun W hW => by
          rw [HF.out]
          unfold one
          rw [firstT_at (takers ((bs s).drop a)) k (fun j hj => HN.out j hj) (by rw [hT]; intro h; cases h), hT]
          exact ⟨rfl, hW⟩)
        have HC := Lib.hid hC'
        clear hC hC' hT HN HF
        generalize takerK k = K at *
        go_wp2_with fail
        refine HC.out.mono ?_
        rintro e w1 ⟨rfl, hB1⟩
        have HB1 := Lib.hid (below_next HB.out hB1)
        clear hB1
        go_wp2
        exact ⟨rfl, HX.out _ HB1.out⟩
      | got x n =>
        rw [hT] at hC
        have hpos := takers_pos (.got x n) (by rw [← hT, List.getD_eq_getElem?_getD, List.getElem?_eq_getElem (by exact hlt)]; exact List.getElem_mem _) rfl
        rw [List.length_drop, bs_length] at hpos
        have hle := H.out.le
        have hss := H.out.sz
        have hC' : Calls Tryz.prog (takerK k) #[.pointer (some ⟨rp, 0, none⟩)] wr fun e w' => e = .returned (.tuple #[.agg (symC x.kind (strOfNums x.text) x.tk (strOfNums x.tt) (strOfNums x.te) x.place), .int .i64 (n : Nat)]) ∧ Below wr.heap.size wr w' := hC
        have HX : Hid (∀ W, Rd W rp s (a + n) (.slice (some ⟨tb, 0, none⟩) 8 8) → Moves rp w W → F (.returned (.agg (symC x.kind (strOfNums x.text) x.tk (strOfNums x.tt) (strOfNums x.te) a))) W) := Lib.hid (fun W h1 h2 => by
          rw [HF.out]
          unfold one
          rw [firstT_at (takers ((bs s).drop a)) k (fun j hj => HN.out j hj) (by rw [hT]; intro h; cases h), hT]
          exact ⟨rfl, h1, h2⟩)
        have HC := Lib.hid hC'
        clear hC hC' hT HN HF
        generalize takerK k = K at *
        generalize (x.kind : Int) = x1 at *
        generalize strOfNums x.text = x2 at *
        generalize (x.tk : Int) = x3 at *
        generalize strOfNums x.tt = x4 at *
        generalize strOfNums x.te = x5 at *
        generalize (x.place : Int) = x6 at *
        have dn : decide ((0 : Int) < (n : Int)) = true := by simp; omega
        have W1 : IntKind.i64.wrap ((a : Int) + (n : Int)) = (a : Int) + (n : Int) := IntWalk.i64_in _ (by omega)
        go_wp2_with fail
        refine HC.out.mono ?_
        rintro e w1 ⟨rfl, hB1⟩
        have HB1 := Lib.hid (below_next HB.out hB1)
        have HZ1 := Lib.hid (HZk.out.kept hB1)
        have HR1 := Lib.hid (H.out.below HB1.out)
        have hs1 := HB1.out.size
        clear hB1
        have c1 : ∀ o, (w1.alloc o).cell? ⟨rp, 1, none⟩ = some (.int .i64 a) := fun o => (HR1.out.below (below_lex w1 o)).at_.c1
        have cf : ∀ o j, (w1.alloc o).frozen? ⟨rp, j, none⟩ = false := fun o j => (HR1.out.below (below_lex w1 o)).blk.free j
        have z0 : ∀ o, (w1.alloc o).cell? ⟨w.heap.size, 0, none⟩ = some (.int .i64 0) := fun o => (HZ1.out.alloc o).cell (j := 0) rfl
        have z1 : ∀ o, (w1.alloc o).cell? ⟨w.heap.size, 1, none⟩ = some (.string ⟨#[]⟩) := fun o => (HZ1.out.alloc o).cell (j := 1) rfl
        have z2 : ∀ o, (w1.alloc o).cell? ⟨w.heap.size, 2, none⟩ = some (.int .i64 0) := fun o => (HZ1.out.alloc o).cell (j := 2) rfl
        have z3 : ∀ o, (w1.alloc o).cell? ⟨w.heap.size, 3, none⟩ = some (.string ⟨#[]⟩) := fun o => (HZ1.out.alloc o).cell (j := 3) rfl
        have z4 : ∀ o, (w1.alloc o).cell? ⟨w.heap.size, 4, none⟩ = some (.string ⟨#[]⟩) := fun o => (HZ1.out.alloc o).cell (j := 4) rfl
        have z5 : ∀ o, (w1.alloc o).cell? ⟨w.heap.size, 5, none⟩ = some (.int .i64 0) := fun o => (HZ1.out.alloc o).cell (j := 5) rfl
        have zf : ∀ o j, (w1.alloc o).frozen? ⟨w.heap.size, j, none⟩ = false := fun o j => (HZ1.out.alloc o).free j
        have n3 : ¬ w.heap.size = rp := by omega
        have n4 : ¬ rp = w.heap.size := by omega
        have n1 : ¬ w1.heap.size = rp := by omega
        have n2 : ¬ rp = w1.heap.size := by omega
        have hfin : Rd ((w1.alloc (.cells #[.int .i64 x1, .string x2, .int .i64 x3, .string x4, .string x5, .int .i64 a] 43)).setCell ⟨rp, 1, none⟩ (.int .i64 ((a : Int) + (n : Int)))) rp s (a + n) (.slice (some ⟨tb, 0, none⟩) 8 8) := (HR1.out.below (below_lex w1 _)).setI (by omega) (by omega)
        have hfz : BlockAt ((w1.alloc (.cells #[.int .i64 x1, .string x2, .int .i64 x3, .string x4, .string x5, .int .i64 a] 43)).setCell ⟨rp, 1, none⟩ (.int .i64 ((a : Int) + (n : Int)))) w.heap.size zeroC 43 := (HZ1.out.alloc _).other n4 _ _
        have hfm : Moves rp w ((w1.alloc (.cells #[.int .i64 x1, .string x2, .int .i64 x3, .string x4, .string x5, .int .i64 a] 43)).setCell ⟨rp, 1, none⟩ (.int .i64 ((a : Int) + (n : Int)))) := (Moves.of_below (HB1.out.alloc hs1 _)).set 1 _
        have HFin := Lib.hid hfin
        have HFz := Lib.hid hfz
        have HFm := Lib.hid hfm
        clear hfin hfz hfm
        go_wp2
        refine bodyPost_ret (results_cell_row rfl _ _ w.heap.size 43 _ (0, 0) _ rfl (HFz.out.set6 _ _ _ _ _ _) Tryz.underlying43 rfl (by kernel_rfl)) rfl (HX.out _ ?_ ?_)
        · exact ⟨HFin.out.blk.other6 n3 _ _ _ _ _ _, HFin.out.le, HFin.out.sz⟩
        · exact HFm.out.fresh6 (Nat.le_refl _) _ _ _ _ _ _
    · obtain rfl : k = 8 := by omega
      have HX : Hid (∀ W, Below w.heap.size w W → F badE W) := Lib.hid (fun W hW => by
        rw [HF.out]
        unfold one
        have : firstT (takers ((bs s).drop a)) = .bad := firstT_end HN.out
        rw [this]
        exact ⟨rfl, hW⟩)
      go_wp2
      exact ⟨rfl, HX.out _ HB.out⟩
end Go.Proofs.YtachijkjcbajmaaGreatDoor
