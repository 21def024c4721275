/-
  WHAT THE PROOF STANDS ON, a part of it: LexNext, LexAll.
-/
import Derived.Test.YtbcoklbfebmpoaaGreatDoorU26
import Derived.Defers
import Derived.Recover
/-
  CONTRACTS OF (*reader).next AND OF ITS DEFERRED FUNCTION.
-/

namespace Go.Proofs.YtbcoklbfebmpoaaGreatDoor
open Go.RowKit
open Utf Term Lex
set_option linter.unusedVariables false
set_option linter.unusedSimpArgs false

/-- The two results of one's own: the symbol's block, and whether there is one. -/
structure Two (W : World) (g : Nat) (cs : Array Value) (b : Bool) : Prop where
  x : BlockAt W g cs 64
  ok : BlockAt W (g + 1) #[.bool b] 4

set_option maxRecDepth 100000 in
set_option maxHeartbeats 2000000 in
theorem catch_panicking (g : Nat) (u : TypeId) (pv : Value) (older : List PanicEntry) (w : World) (h : Two w g zeroC false) :
    CallsD Tryz.prog 115 #[.pointer (some ⟨g, 0, none⟩), .pointer (some ⟨g + 1, 0, none⟩)] (.panicking ({ v := .iface u pv, recovered := false } :: older)) w fun e u' w' =>
      e = .returned (.tuple #[]) ∧ u' = .panicking ({ v := .iface u pv, recovered := true } :: older) ∧ Two w' g zeroC false ∧ Below g w w' := by
  have k0 := h.x.cell (j := 0) rfl
  have k1 := h.x.cell (j := 1) rfl
  have k2 := h.x.cell (j := 2) rfl
  have k3 := h.x.cell (j := 3) rfl
  have k4 := h.x.cell (j := 4) rfl
  have k5 := h.x.cell (j := 5) rfl
  have kf : ∀ j, w.frozen? ⟨g, j, none⟩ = false := fun j => h.x.free j
  have o0 := h.ok.cell (j := 0) rfl
  have of : w.frozen? ⟨g + 1, 0, none⟩ = false := h.ok.free 0
  refine callsD_of_wpS Tryz.func115 rfl fun c₀ cs hu => ?_
  apply wpS_seq
  apply wpS_region
  simp [wpOpsS, go_sem, recoverD, hu, Tryz.ntmps115, Exit.thenS]
  refine wpS_cond (t := true) (by simp [Act.eval, Array.replicate]) ?_
  simp only [if_true]
  apply wpS_region
  simp [wpOpsS, go_sem, k0, k1, k2, k3, k4, k5, kf, o0, of, bodyPostS, results, Tryz.results115]
  exact ⟨⟨(h.x.set6 _ _ _ _ _ _).other (by omega) _ _, (h.ok.other6 (by omega) _ _ _ _ _ _).set 0 _⟩, (below_set6 (Below.refl _ _) (Nat.le_refl _) _ _ _ _ _ _).setCell (by simp) _⟩

theorem catch_idle (p q : Addr) (w : World) :
    CallsD Tryz.prog 115 #[.pointer (some p), .pointer (some q)] .returning w fun e u' w' => e = .returned (.tuple #[]) ∧ u' = .returning ∧ w' = w := by
  refine callsD_of_wpS Tryz.func115 rfl fun c₀ cs hu => ?_
  apply wpS_seq
  apply wpS_region
  simp [wpOpsS, go_sem, recoverD, hu, Tryz.ntmps115, Exit.thenS]
  refine wpS_cond (t := false) (by simp [Act.eval, Array.replicate]) ?_
  simp only [Bool.false_eq_true, if_false]
  refine wpS_of_wp (wp_skip ?_)
  cases c₀
  simp_all [bodyPostS, results, Tryz.results115]

theorem LexEnv.under {B : Nat} {w u : World} (h : LexEnv w) (k : Below B w u) (hB : 0 < B ∧ 1 < B ∧ 4 < B) : LexEnv u where
  len := by
    obtain ⟨m, hm⟩ := h.len
    exact ⟨m, (k.cell (p := ⟨1, 0, none⟩) hB.2.1).trans hm⟩
  err := by
    obtain ⟨ev, h1, h2⟩ := h.err
    exact ⟨ev, (k.cell (p := ⟨4, 0, none⟩) hB.2.2).trans h1, h2⟩
  marks := by
    obtain ⟨tt, fr, hh⟩ := h.marks
    exact ⟨tt, fr, (k.block _ hB.1).trans hh⟩

theorem load_bool (W : World) (g : Nat) (b : Bool) (h : BlockAt W g #[.bool b] 4) : (loadVar 4 ⟨g, 0, none⟩).run Tryz.prog W = .ok (.bool b) W := by
  have hc := h.cell (j := 0) rfl
  simp [go_sem, loadVar, Tryz.underlying4, hc]
theorem results_two {fn : Func} {p q : Tmp} (h : fn.results = #[.cell p 64, .cell q 4]) (tmps : Array Value) (w : World) (g : Nat) (x0 x1 x2 x3 x4 x5 : Value) (b : Bool)
    (hp : tmps.getD p undef = .pointer (some ⟨g, 0, none⟩)) (hq : tmps.getD q undef = .pointer (some ⟨g + 1, 0, none⟩)) (hx : BlockAt w g #[x0, x1, x2, x3, x4, x5] 64) (hb : BlockAt w (g + 1) #[.bool b] 4) :
    (results fn tmps).run Tryz.prog w = .ok (.tuple #[.agg #[x0, x1, x2, x3, x4, x5], .bool b]) w := by
  have h1 := run_loadVar_row (P := Tryz.prog) w g 64 64 #[x0, x1, x2, x3, x4, x5] (0, 0) _ hx Tryz.underlying64 rfl (by kernel_rfl)
  have h2 := load_bool w (g + 1) b hb
  have hp' : tmps[p]?.getD undef = .pointer (some ⟨g, 0, none⟩) := by simpa using hp
  have hq' : tmps[q]?.getD undef = .pointer (some ⟨g + 1, 0, none⟩) := by simpa using hq
  simp only [results, h]
  simp [Sem.run_bind, Result.andThen, hp', hq', asAddr, h1, h2]

theorem BlockAt.under {w u : World} {g B : Nat} {cs : Array Value} {t : TypeId} (h : BlockAt w g cs t) (k : Below B w u) (hg : g < B) : BlockAt u g cs t := by
  unfold BlockAt at *
  rw [k.block g hg]
  exact h
theorem Moves.then {g : Nat} {u v w : World} (h : Moves g u v) (k : Below u.heap.size v w) : Moves g u w :=
  ⟨k.os.trans h.os, k.tape.trans h.tape, k.output.trans h.output, Nat.le_trans h.size k.size, fun i hi hn => (k.block i hi).trans (h.block i hi hn)⟩

/-- What next does. -/
def Nexted (rp : Nat) (s : ByteArray) (a : Nat) (tv : Value) (w : World) (e : Ending) (w' : World) : Prop :=
  match nextL ((bs s).drop a) with
  | some (x, n) => e = .returned (.tuple #[symV (x.move a), .bool true]) ∧ Rd w' rp s (a + n) tv ∧ Moves rp w w'
  | none => e = .returned (.tuple #[.agg zeroC, .bool false]) ∧ Rd w' rp s (a + sk false ((bs s).drop a)) tv ∧ Moves rp w w'

set_option maxRecDepth 100000 in
set_option maxHeartbeats 8000000 in
theorem next_any (hE : EscOK) (rp tb : Nat) (s : ByteArray) (a : Nat) (w : World) (h : Rd w rp s a (.slice (some ⟨tb, 0, none⟩) 8 8)) (ht : BlockAt w tb (takersC rp) 175) (htb : tb ≠ rp) (hv : LexEnv w) (hrp : 0 < rp ∧ 1 < rp ∧ 4 < rp) :
    Calls Tryz.prog 78 #[.pointer (some ⟨rp, 0, none⟩)] w (Nexted rp s a (.slice (some ⟨tb, 0, none⟩) 8 8) w) := by
  have hmf : ∀ (fn : Fn) (first cap : Array Value) (w : World), (Instr.makeFunc fn first cap).run Tryz.prog w = .ok (.func fn first cap) w := fun _ _ _ _ => rfl
  have hrw : rp < w.heap.size := (Array.getElem?_eq_some_iff.1 h.blk).1
  have hB : Below w.heap.size w ((w.alloc (.cells zeroC 64)).alloc (.cells #[.bool false] 4)) := below_next (below_lex _ _) (below_lex _ _)
  have hT : Two ((w.alloc (.cells zeroC 64)).alloc (.cells #[.bool false] 4)) w.heap.size zeroC false := ⟨(block_new w _ _).alloc _, by
    have := block_new (w.alloc (.cells zeroC 64)) #[.bool false] 4
    rwa [World.size_alloc] at this⟩
  obtain ⟨b, hb⟩ : ∃ b, b = a + sk false ((bs s).drop a) := ⟨_, rfl⟩
  have HS := Lib.hid (skip_any rp s a _ _ (h.below hB))
  obtain ⟨W0, hW0⟩ : ∃ W0, W0 = (w.alloc (.cells zeroC 64)).alloc (.cells #[.bool false] 4) := ⟨_, rfl⟩
  have hsz0 : W0.heap.size = w.heap.size + 2 := by rw [hW0]; simp
  have HW0 := Lib.hid hW0
  rw [← hW0, ← hb] at HS
  rw [← hW0] at hB hT
  have HB := Lib.hid hB
  have HT := Lib.hid hT
  have HSz := Lib.hid hsz0
  obtain ⟨F, hF⟩ : ∃ F, F = Nexted rp s a (.slice (some ⟨tb, 0, none⟩) 8 8) w := ⟨_, rfl⟩
  rw [← hF]
  have HF := Lib.hid hF
  have H := Lib.hid h
  have Ht := Lib.hid ht
  have Hv := Lib.hid hv
  have Hb := Lib.hid hb
  have HE := Lib.hid hE
  clear hF h ht hv hb hE hB hT hW0 hsz0
  go_enter_defers Tryz.func78, Tryz.ntmps78
  go_wp2_with fail
  rw [HW0.out] at HS
  refine HS.out.mono ?_
  rintro e w1 ⟨rfl, hR1, hM1⟩
  rw [← HW0.out] at hM1
  have hs1 := hM1.size
  rw [HSz.out] at hs1
  have HT1 : Hid (Two w1 w.heap.size zeroC false) := Lib.hid ⟨hM1.at_ HT.out.x (by omega), hM1.at_ HT.out.ok (by omega)⟩
  have HM1 : Hid (Moves rp w w1) := Lib.hid ((Moves.of_below HB.out).trans hM1)
  have Ht1 : Hid (BlockAt w1 tb (takersC rp) 175) := Lib.hid (HM1.out.at_ Ht.out htb)
  have Hv1 : Hid (LexEnv w1) := Lib.hid (Hv.out.under (HM1.out.below (B := rp) (by omega) (Nat.le_refl _)) hrp)
  have HR1 := Lib.hid hR1
  have c0 := hR1.at_.c0
  have c1 := hR1.at_.c1
  have hbs := hR1.le
  have hss := hR1.sz
  clear hM1 HS hR1 HT
  go_wp2_with fail
  go_quiet (fail)
  clear c0 c1
  have HT2 := fun (n : Nat) => Lib.hid (show Two (w1.drewN n) w.heap.size zeroC false from ⟨HT1.out.x.drew n, HT1.out.ok.drew n⟩)
  have k0 := HT1.out.x.cell (j := 0) rfl
  have k1 := HT1.out.x.cell (j := 1) rfl
  have k2 := HT1.out.x.cell (j := 2) rfl
  have k3 := HT1.out.x.cell (j := 3) rfl
  have k4 := HT1.out.x.cell (j := 4) rfl
  have k5 := HT1.out.x.cell (j := 5) rfl
  have kf : ∀ j, w1.frozen? ⟨w.heap.size, j, none⟩ = false := fun j => HT1.out.x.free j
  have o0 := HT1.out.ok.cell (j := 0) rfl
  have of : w1.frozen? ⟨w.heap.size + 1, 0, none⟩ = false := HT1.out.ok.free 0
  by_cases hend : b = s.size
  · have e1 : ((b : Int) == (s.size : Int)) = true := by simp [hend]
    have HX : Hid (∀ W, Rd W rp s b (.slice (some ⟨tb, 0, none⟩) 8 8) → Moves rp w W → F (.returned (.tuple #[.agg zeroC, .bool false])) W) := Lib.hid (fun W h1 h2 => by
      rw [HF.out]
      unfold Nexted
      have hn : nextL ((bs s).drop a) = none := by
        unfold nextL
        rw [if_pos (by rw [List.drop_drop, ← Hb.out, hend]; exact List.drop_eq_nil_of_le (by rw [bs_length]; exact Nat.le_refl _))]
      rw [hn]
      exact ⟨rfl, by rw [← Hb.out]; exact h1, h2⟩)
    go_wp2
    refine ⟨_, results_two rfl _ _ w.heap.size _ _ _ _ _ _ false rfl rfl ((HT1.out.x.drew _).set6 _ _ _ _ _ _ |>.other (by omega) _ _) (((HT1.out.ok.drew _).other6 (by omega) _ _ _ _ _ _).set 0 _), HX.out _ ?_ ?_⟩
    · exact ⟨((HR1.out.drew _).blk.other6 (by omega) _ _ _ _ _ _).other (by omega) _ _, HR1.out.le, HR1.out.sz⟩
    · exact ((HM1.out.drew _).fresh6 (Nat.le_refl _) _ _ _ _ _ _).fresh (by omega) _ _
  · have e1 : ((b : Int) == (s.size : Int)) = false := by simp; omega
    have hl : (bs s).drop b ≠ [] := by
      intro h
      have := List.drop_eq_nil_iff.1 h
      rw [bs_length] at this
      omega
    have hTk := fun (n : Nat) => Lib.hid (take_any HE.out rp tb s b (w1.drewN n) (HR1.out.drew n) (Ht1.out.drew n) (Hv1.out.below (lex_drewN _ _ n)))
    cases ho : one ((bs s).drop b) with
    | got x n =>
      have HX : Hid (∀ W, Rd W rp s (b + n) (.slice (some ⟨tb, 0, none⟩) 8 8) → Moves rp w W → F (.returned (.tuple #[symV { x with place := b }, .bool true])) W) := Lib.hid (fun W h1 h2 => by
        rw [HF.out]
        unfold Nexted
        have hn : nextL ((bs s).drop a) = some ({ x with place := sk false ((bs s).drop a) }, sk false ((bs s).drop a) + n) := by
          unfold nextL
          rw [List.drop_drop, ← Hb.out, if_neg hl, ho]
        rw [hn]
        refine ⟨?_, by rw [← Nat.add_assoc, ← Hb.out]; exact h1, h2⟩
        simp only [Sym.move]
        rw [← Hb.out])
      rw [ho] at hTk
      have hTk' : ∀ n', Hid (Calls Tryz.prog 116 #[.pointer (some ⟨rp, 0, none⟩)] (w1.drewN n') fun e w' => e = .returned (.agg (symC x.kind (strOfNums x.text) x.tk (strOfNums x.tt) (strOfNums x.te) b)) ∧ Rd w' rp s (b + n) (.slice (some ⟨tb, 0, none⟩) 8 8) ∧ Moves rp (w1.drewN n') w') := hTk
      clear hTk ho HF
      unfold symV symA at HX
      simp only at HX
      generalize (x.kind : Int) = x1 at *
      generalize strOfNums x.text = x2 at *
      generalize (x.tk : Int) = x3 at *
      generalize strOfNums x.tt = x4 at *
      generalize strOfNums x.te = x5 at *
      clear k0 k1 k2 k3 k4 k5 kf o0 of
      go_wp2_with fail
      refine (hTk' _).out.mono ?_
      rintro e w2 ⟨rfl, hR2, hM2⟩
      have HT2 : Hid (Two w2 w.heap.size zeroC false) := Lib.hid ⟨hM2.at_ (HT1.out.x.drew _) (by omega), hM2.at_ (HT1.out.ok.drew _) (by omega)⟩
      have HM2 : Hid (Moves rp w w2) := Lib.hid ((HM1.out.drew _).trans hM2)
      have HR2 := Lib.hid hR2
      have k0 := HT2.out.x.cell (j := 0) rfl
      have k1 := HT2.out.x.cell (j := 1) rfl
      have k2 := HT2.out.x.cell (j := 2) rfl
      have k3 := HT2.out.x.cell (j := 3) rfl
      have k4 := HT2.out.x.cell (j := 4) rfl
      have k5 := HT2.out.x.cell (j := 5) rfl
      have kf : ∀ j, w2.frozen? ⟨w.heap.size, j, none⟩ = false := fun j => HT2.out.x.free j
      have o0 := HT2.out.ok.cell (j := 0) rfl
      have of : w2.frozen? ⟨w.heap.size + 1, 0, none⟩ = false := HT2.out.ok.free 0
      clear hR2 hM2
      go_wp2
      refine leaves_cons (f := 115) (args := #[.pointer (some ⟨w.heap.size, 0, none⟩), .pointer (some ⟨w.heap.size + 1, 0, none⟩)]) (by simp) (by simp [go_sem]) ?_
      refine (catch_idle _ _ _).mono ?_
      rintro e u' w'' ⟨rfl, rfl, rfl⟩
      refine ⟨_, results_two rfl _ _ w.heap.size _ _ _ _ _ _ true rfl rfl ((HT2.out.x.set6 _ _ _ _ _ _).other (by omega) _ _) ((HT2.out.ok.other6 (by omega) _ _ _ _ _ _).set 0 _), HX.out _ ?_ ?_⟩
      · exact ⟨(HR2.out.blk.other6 (by omega) _ _ _ _ _ _).other (by omega) _ _, HR2.out.le, HR2.out.sz⟩
      · exact (HM2.out.fresh6 (Nat.le_refl _) _ _ _ _ _ _).fresh (by omega) _ _
    | no =>
      have HX : Hid (∀ W, Rd W rp s b (.slice (some ⟨tb, 0, none⟩) 8 8) → Moves rp w W → F (.returned (.tuple #[.agg zeroC, .bool false])) W) := Lib.hid (fun W h1 h2 => by
        rw [HF.out]
        unfold Nexted
        have hn : nextL ((bs s).drop a) = none := by
          unfold nextL
          rw [List.drop_drop, ← Hb.out, if_neg hl, ho]
        rw [hn]
        exact ⟨rfl, by rw [← Hb.out]; exact h1, h2⟩)
      rw [ho] at hTk
      have hTk' : ∀ n', Hid (Calls Tryz.prog 116 #[.pointer (some ⟨rp, 0, none⟩)] (w1.drewN n') fun e w' => e = badE ∧ Below (w1.drewN n').heap.size (w1.drewN n') w') := hTk
      clear hTk ho HF k0 k1 k2 k3 k4 k5 kf o0 of
      go_wp2_with fail
      refine (hTk' _).out.mono ?_
      rintro e w2 ⟨rfl, hB2⟩
      have HT3 : Hid (Two w2 w.heap.size zeroC false) := Lib.hid ⟨(HT1.out.x.drew _).kept hB2, (HT1.out.ok.drew _).kept hB2⟩
      have HM2 : Hid (Moves rp w w2) := Lib.hid ((HM1.out.drew _).trans (Moves.of_below hB2))
      have HR2 := Lib.hid ((HR1.out.drew _).below hB2)
      clear hB2
      go_wp2
      refine leaves_cons (f := 115) (args := #[.pointer (some ⟨w.heap.size, 0, none⟩), .pointer (some ⟨w.heap.size + 1, 0, none⟩)]) (by simp) (by simp [go_sem]) ?_
      refine (catch_panicking _ _ _ _ _ HT3.out).mono ?_
      rintro e u' w'' ⟨rfl, rfl, hT4, hB4⟩
      refine ⟨_, results_two rfl _ _ w.heap.size _ _ _ _ _ _ false rfl rfl hT4.x hT4.ok, HX.out _ ?_ ?_⟩
      · exact ⟨(HR2.out.blk.under hB4 hrw), HR2.out.le, HR2.out.sz⟩
      · exact HM2.out.then hB4
    | bad =>
      have HX : Hid (∀ W, Rd W rp s b (.slice (some ⟨tb, 0, none⟩) 8 8) → Moves rp w W → F (.returned (.tuple #[.agg zeroC, .bool false])) W) := Lib.hid (fun W h1 h2 => by
        rw [HF.out]
        unfold Nexted
        have hn : nextL ((bs s).drop a) = none := by
          unfold nextL
          rw [List.drop_drop, ← Hb.out, if_neg hl, ho]
        rw [hn]
        exact ⟨rfl, by rw [← Hb.out]; exact h1, h2⟩)
      rw [ho] at hTk
      have hTk' : ∀ n', Hid (Calls Tryz.prog 116 #[.pointer (some ⟨rp, 0, none⟩)] (w1.drewN n') fun e w' => e = badE ∧ Below (w1.drewN n').heap.size (w1.drewN n') w') := hTk
      clear hTk ho HF k0 k1 k2 k3 k4 k5 kf o0 of
      go_wp2_with fail
      refine (hTk' _).out.mono ?_
      rintro e w2 ⟨rfl, hB2⟩
      have HT3 : Hid (Two w2 w.heap.size zeroC false) := Lib.hid ⟨(HT1.out.x.drew _).kept hB2, (HT1.out.ok.drew _).kept hB2⟩
      have HM2 : Hid (Moves rp w w2) := Lib.hid ((HM1.out.drew _).trans (Moves.of_below hB2))
      have HR2 := Lib.hid ((HR1.out.drew _).below hB2)
      clear hB2
      go_wp2
      refine leaves_cons (f := 115) (args := #[.pointer (some ⟨w.heap.size, 0, none⟩), .pointer (some ⟨w.heap.size + 1, 0, none⟩)]) (by simp) (by simp [go_sem]) ?_
      refine (catch_panicking _ _ _ _ _ HT3.out).mono ?_
      rintro e u' w'' ⟨rfl, rfl, hT4, hB4⟩
      refine ⟨_, results_two rfl _ _ w.heap.size _ _ _ _ _ _ false rfl rfl hT4.x hT4.ok, HX.out _ ?_ ?_⟩
      · exact ⟨(HR2.out.blk.under hB4 hrw), HR2.out.le, HR2.out.sz⟩
      · exact HM2.out.then hB4
end Go.Proofs.YtbcoklbfebmpoaaGreatDoor

/-
  THE CONTRACT OF lex.All.
-/

namespace Go.Proofs.YtbcoklbfebmpoaaGreatDoor
open Go.RowKit
open Utf Term Lex
set_option linter.unusedVariables false
set_option linter.unusedSimpArgs false

/-- The cells of a list of symbols. -/
def flatS (l : List Sym) : List Value := l.flatMap fun x => (symA x).toList
theorem flatS_snoc (l : List Sym) (x : Sym) : flatS (l ++ [x]) = flatS l ++ (symA x).toList := by simp [flatS]
theorem flatS_length (l : List Sym) : (flatS l).length = l.length * 6 := by
  induction l with
  | nil => rfl
  | cons x l ih =>
    have : flatS (x :: l) = (symA x).toList ++ flatS l := by simp [flatS]
    rw [this, List.length_append, ih, List.length_cons]
    simp [symA]
    omega
theorem info_sym : (Tryz.prog.info? 64).map (fun i => (i.zero, i.size, i.bytes)) = some (some (.agg zeroC), 6, 72) := by kernel_rfl

/-- What has been taken, and what comes, make up T. -/
def Got (l : List Int) (a : Nat) (acc : List Sym) (T : List Sym × Nat) : Prop := T = (acc ++ (toks (l.drop a) a).1, (toks (l.drop a) a).2)
theorem Got.next {l : List Int} {a n : Nat} {acc : List Sym} {T : List Sym × Nat} {x : Sym} (h : Got l a acc T) (hn : nextL (l.drop a) = some (x, n)) : Got l (a + n) (acc ++ [x.move a]) T := by
  unfold Got at *
  rw [h, toks_next, hn]
  simp only [List.drop_drop, List.append_assoc, List.cons_append, List.nil_append]
theorem Got.last {l : List Int} {a : Nat} {acc : List Sym} {T : List Sym × Nat} (h : Got l a acc T) (hn : nextL (l.drop a) = none) : T = (acc, a + sk false (l.drop a)) := by
  unfold Got at *
  rw [h, toks_next, hn]
  simp only [List.append_nil]

def zeroSym : Sym := ⟨0, [], 0, [], [], 0⟩
/-- What next hands back, and what that means for T. -/
def NextOut (rp : Nat) (s : ByteArray) (a : Nat) (tv : Value) (acc : List Sym) (T : List Sym × Nat) (w : World) (e : Ending) (w' : World) : Prop :=
  ∃ (ok : Bool) (y : Sym) (a' : Nat), e = .returned (.tuple #[.agg (symC y.kind (strOfNums y.text) y.tk (strOfNums y.tt) (strOfNums y.te) y.place), .bool ok]) ∧ Rd w' rp s a' tv ∧ Moves rp w w' ∧ a ≤ a' ∧
    (ok = true → a < a' ∧ Got (bs s) a' (acc ++ [y]) T) ∧ (ok = false → T = (acc, a'))
theorem next_out (hE : EscOK) (rp tb : Nat) (s : ByteArray) (a : Nat) (acc : List Sym) (T : List Sym × Nat) (w : World) (h : Rd w rp s a (.slice (some ⟨tb, 0, none⟩) 8 8)) (ht : BlockAt w tb (takersC rp) 175) (htb : tb ≠ rp) (hv : LexEnv w) (hrp : 0 < rp ∧ 1 < rp ∧ 4 < rp)
    (hg : Got (bs s) a acc T) :
    Calls Tryz.prog 78 #[.pointer (some ⟨rp, 0, none⟩)] w (NextOut rp s a (.slice (some ⟨tb, 0, none⟩) 8 8) acc T w) := by
  refine (next_any hE rp tb s a w h ht htb hv hrp).mono ?_
  intro e w' hx
  unfold Nexted at hx
  cases hn : nextL ((bs s).drop a) with
  | none =>
    rw [hn] at hx
    obtain ⟨rfl, h1, h2⟩ := hx
    exact ⟨false, zeroSym, _, rfl, h1, h2, by omega, (fun h => by cases h), (fun _ => hg.last hn)⟩
  | some x =>
    obtain ⟨x, n⟩ := x
    rw [hn] at hx
    obtain ⟨rfl, h1, h2⟩ := hx
    have := nextL_pos hn
    exact ⟨true, x.move a, _, rfl, h1, h2, by omega, (fun _ => ⟨by omega, hg.next hn⟩), (fun h => by cases h)⟩

theorem _root_.Go.World.ownsRow.low {w : World} {B B' : Nat} {e : TypeId} {k n : Nat} {v : Value} {xs : List Value} (h : w.ownsRow B' e k v n xs) (hB : B ≤ B') : w.ownsRow B e k v n xs := by
  obtain ⟨hl, h0 | ⟨g, cap, cur, r1, r2, r3⟩⟩ := h
  · exact ⟨hl, .inl h0⟩
  · exact ⟨hl, .inr ⟨g, cap, cur, r1, by omega, r3⟩⟩

theorem BlockAt.grown {w u : World} {g : Nat} {cs : Array Value} {t : TypeId} {v : Value} (h : BlockAt w g cs t) (k : w.grownBy u v.ownBlock) (hn : v.ownBlock ≠ some g) : BlockAt u g cs t := by
  unfold BlockAt at *
  rw [k.block g (Array.getElem?_eq_some_iff.1 h).1 (fun e => hn e.symm)]
  exact h

theorem _root_.Go.World.ownsRow.set6 {w : World} {B : Nat} {e : TypeId} {k n : Nat} {v : Value} {xs : List Value} (h : w.ownsRow B e k v n xs) {b : Nat} (hb : v.ownBlock ≠ some b) (x0 x1 x2 x3 x4 x5 : Value) :
    ((((((w.setCell ⟨b, 0, none⟩ x0).setCell ⟨b, 1, none⟩ x1).setCell ⟨b, 2, none⟩ x2).setCell ⟨b, 3, none⟩ x3).setCell ⟨b, 4, none⟩ x4).setCell ⟨b, 5, none⟩ x5).ownsRow B e k v n xs :=
  ownsRow_setCell_other (ownsRow_setCell_other (ownsRow_setCell_other (ownsRow_setCell_other (ownsRow_setCell_other (ownsRow_setCell_other h (a := ⟨b, 0, none⟩) hb _) (a := ⟨b, 1, none⟩) hb _) (a := ⟨b, 2, none⟩) hb _) (a := ⟨b, 3, none⟩) hb _) (a := ⟨b, 4, none⟩) hb _) (a := ⟨b, 5, none⟩) hb _

/-- The state at the head of All's loop. -/
def AllRel (w : World) (rp tb : Nat) (s : ByteArray) (tv : Value) (T : List Sym × Nat) (g : Nat) (v xp ok : Value) (wr : World) : Prop :=
  ∃ (acc : List Sym) (y : Sym) (a : Nat) (okb : Bool) (xb : Nat), xp = .pointer (some ⟨xb, 0, none⟩) ∧ ok = .bool okb ∧
    wr.ownsRow (rp + 2) 64 6 v acc.length (flatS acc) ∧ v.ownBlock ≠ some xb ∧ rp + 2 ≤ xb ∧ BlockAt wr xb (symC y.kind (strOfNums y.text) y.tk (strOfNums y.tt) (strOfNums y.te) y.place) 64 ∧
    Rd wr rp s a tv ∧ BlockAt wr tb (takersC rp) 175 ∧ LexEnv wr ∧ Below w.heap.size w wr ∧ rp + 2 ≤ wr.heap.size ∧ acc.length ≤ a ∧
    (okb = true → acc.length + 1 ≤ a ∧ Got (bs s) a (acc ++ [y]) T) ∧ (okb = false → T = (acc, a)) ∧ (s.size - a) + (if okb = true then 1 else 0) ≤ g

/-- What All answers. -/
def AllOut (s : ByteArray) (w : World) (e : Ending) (w' : World) : Prop :=
  Below w.heap.size w w' ∧
  (if 1048576 < s.size then e = .returned (.tuple #[.slice none 0 0, .int .i64 0, .int .i64 3])
  else if wfL (bs s) < s.size then e = .returned (.tuple #[.slice none 0 0, .int .i64 (wfL (bs s)), .int .i64 4])
  else if (allL (bs s)).2 < s.size then e = .returned (.tuple #[.slice none 0 0, .int .i64 (allL (bs s)).2, .int .i64 4])
  else ∃ v, e = .returned (.tuple #[v, .int .i64 0, .int .i64 0]) ∧ w'.ownsRow w.heap.size 64 6 v (allL (bs s)).1.length (flatS (allL (bs s)).1))

set_option maxRecDepth 100000 in
set_option maxHeartbeats 8000000 in
theorem all_main (hE : EscOK) (s : ByteArray) (w : World) (hv : LexEnv w) (hrp : 0 < w.heap.size ∧ 1 < w.heap.size ∧ 4 < w.heap.size) (hs : s.size ≤ 1048576) (hw : ¬ wfL (bs s) < s.size) (F : Ending → World → Prop)
    (hbad : ∀ W, Below w.heap.size w W → (allL (bs s)).2 < s.size → F (.returned (.tuple #[.slice none 0 0, .int .i64 (allL (bs s)).2, .int .i64 4])) W)
    (hgood : ∀ v W, Below w.heap.size w W → ¬ (allL (bs s)).2 < s.size → W.ownsRow w.heap.size 64 6 v (allL (bs s)).1.length (flatS (allL (bs s)).1) → F (.returned (.tuple #[v, .int .i64 0, .int .i64 0])) W) :
    Calls Tryz.prog 44 #[.string s] w F := by
  have dl : decide ((1048576 : Int) < (s.size : Int)) = false := by simp; omega
  have HW := Lib.hid (wellFormed_any s (by omega) w)
  have dw : decide (wfL (bs s) < s.size) = false := by simp; omega
  obtain ⟨T, hT⟩ : ∃ T, T = allL (bs s) := ⟨_, rfl⟩
  rw [← hT] at hbad hgood
  have HG0 : Hid (Got (bs s) 0 [] T) := Lib.hid (by
    rw [hT]
    unfold Got allL
    rw [List.drop_zero, List.nil_append])
  have HN := Lib.hid (newReader_any s w (by omega))
  have Hbad := Lib.hid hbad
  have Hgood := Lib.hid hgood
  have HE := Lib.hid hE
  have Hv := Lib.hid hv
  have Hrp := Lib.hid hrp
  clear hbad hgood hT hE hv hrp hw
  generalize wfL (bs s) = wf at *
  go_enter Tryz.func44, Tryz.ntmps44
  go_wp2_with (first | (go_at_call 76; refine HW.out.mono ?_; rintro e w' ⟨rfl, rfl⟩))
  refine HN.out.mono ?_
  rintro e w1 ⟨rfl, hR1, ht1, hB1, hs1⟩
  have HNx := Lib.hid (next_out HE.out _ _ s 0 [] T w1 hR1 ht1 (by omega) (Hv.out.below hB1) Hrp.out HG0.out)
  have HB1 := Lib.hid hB1
  have Ht1 := Lib.hid ht1
  have HS1 := Lib.hid hs1
  clear hR1 ht1 hB1 hs1 HN HW
  go_wp2_with fail
  refine HNx.out.mono ?_
  rintro e w2 ⟨ok, y, a2, rfl, hR2, hM2, ha2, hok, hno⟩
  have HR2 := Lib.hid hR2
  have HM2 := Lib.hid hM2
  have hs2 := hM2.size
  rw [HS1.out] at hs2
  have HOk := Lib.hid hok
  have HNo := Lib.hid hno
  clear hR2 hM2 hok hno HNx
  go_wp2
  go_loopg [6, 8, 9] (s.size + 1) (fun g v xp ok wr => AllRel w w.heap.size (w.heap.size + 1) s (.slice (some ⟨w.heap.size + 1, 0, none⟩) 8 8) T g v xp ok wr)
  case atStart =>
    refine ⟨[], y, a2, ok, w2.heap.size, rfl, rfl, World.ownsRow_nil _ _ _ _, by simp [Value.ownBlock], hs2, block_new w2 _ _, ?_⟩
    have hB2 := below_lex w2 (.cells (symC y.kind (strOfNums y.text) y.tk (strOfNums y.tt) (strOfNums y.te) y.place) 64)
    have hM : Moves w.heap.size w1 w2 := HM2.out
    have hb12 : Below w.heap.size w1 w2 := hM.below (by rw [HS1.out]; omega) (Nat.le_refl _)
    refine ⟨HR2.out.below hB2, (hM.at_ Ht1.out (by omega)).kept hB2, ?_, (HB1.out.trans hb12).alloc (by omega) _, by simp; omega, by simp, fun h => ?_, fun h => ?_, ?_⟩
    · exact ((Hv.out.below HB1.out).under hb12 Hrp.out).below hB2
    · have := HOk.out h
      exact ⟨by simp; omega, this.2⟩
    · exact HNo.out h
    · split <;> omega
  case round =>
    obtain ⟨acc, y', a', okb, xb, rfl, rfl, hown, hne, hxb, hbx, hrd, htb, hev, hbl, hsz, hla, hyes, hno, hmeas⟩ := hrel
    clear HNo HOk HR2 HM2 HG0 ha2
    have HO := Lib.hid hown
    have HNe := Lib.hid hne
    have HX := Lib.hid hbx
    have HRd := Lib.hid hrd
    have HTb := Lib.hid htb
    have HEv := Lib.hid hev
    have HBl := Lib.hid hbl
    have HY := Lib.hid hyes
    have HN := Lib.hid hno
    have hle := hrd.le
    clear hown hne hbx hrd htb hev hbl hyes hno
    cases okb with
    | false =>
      have hTe := HN.out rfl
      have c1 := HRd.out.at_.c1
      have HOw := Lib.hid (HO.out.low (B := w.heap.size) (by omega))
      by_cases hend : a' < s.size
      · have HF : Hid (∀ W, Below w.heap.size w W → F (.returned (.tuple #[.slice none 0 0, .int .i64 a', .int .i64 4])) W) := Lib.hid (fun W hW => by
          have := Hbad.out W hW (by rw [hTe]; exact hend)
          rw [hTe] at this
          exact this)
        clear hTe
        go_wp2_with fail
        go_quiet (fail)
        go_wp2
        go_ret3
        exact HF.out _ (HBl.out.trans ((lex_drewN _ _ _)))
      · have HF : Hid (∀ v W, Below w.heap.size w W → W.ownsRow w.heap.size 64 6 v acc.length (flatS acc) → F (.returned (.tuple #[v, .int .i64 0, .int .i64 0])) W) := Lib.hid (fun v W hW ho => by
          refine Hgood.out v W hW (by rw [hTe]; exact hend) (by rw [hTe]; exact ho))
        have d0 : decide (a' < s.size) = false := by simp; omega
        clear hTe
        go_wp2
        go_ret3
        exact HF.out _ _ HBl.out HOw.out
    | true =>
      obtain ⟨hl1, hgot⟩ := HY.out rfl
      have HGot := Lib.hid hgot
      have hss := HRd.out.sz
      rw [if_pos rfl] at hmeas
      obtain ⟨i0, hi, hz0, hz1, hz2⟩ := info_parts info_sym
      have hxs : xb < wr.heap.size := (Array.getElem?_eq_some_iff.1 HX.out).1
      have x0 := HX.out.cell (j := 0) rfl
      have x1 := HX.out.cell (j := 1) rfl
      have x2 := HX.out.cell (j := 2) rfl
      have x3 := HX.out.cell (j := 3) rfl
      have x4 := HX.out.cell (j := 4) rfl
      have x5 := HX.out.cell (j := 5) rfl
      clear hgot
      have HFl : Hid (flatS (acc ++ [y']) = flatS acc ++ [.int .i64 y'.kind, .string (strOfNums y'.text), .int .i64 y'.tk, .string (strOfNums y'.tt), .string (strOfNums y'.te), .int .i64 y'.place]) := Lib.hid (flatS_snoc acc y')
      go_wp2_with (at_builtin; refine wpList_append_own _ rfl _ _ 24 rfl (w.heap.size + 2) 64 i0 (.agg zeroC) 6 72 Tryz.underlying24 hi hz0 hz1 hz2 rfl (by decide) _ _ _ rfl (HO.out.alloc _) ⟨wr.heap.size, 0, none⟩ 1 1 [.int .i64 y'.kind, .string (strOfNums y'.text), .int .i64 y'.tk, .string (strOfNums y'.tt), .string (strOfNums y'.te), .int .i64 y'.place] rfl rfl (cells_new _ _ _ _ (fun j u h => by simpa using h)) (by intro u hu; simp at hu; rcases hu with rfl | rfl | rfl | rfl | rfl | rfl <;> rfl) (by unfold maxLen; omega) (by omega) (by simp <;> omega) ?_; intro v' w3 hown' hgrow _; clear x0 x1 x2 x3 x4 x5; have HX3 := Lib.hid ((HX.out.alloc (.cells #[.int .i64 y'.kind, .string (strOfNums y'.text), .int .i64 y'.tk, .string (strOfNums y'.tt), .string (strOfNums y'.te), .int .i64 y'.place] 64)).grown hgrow HNe.out); have x0 := HX3.out.cell (j := 0) rfl; have x1 := HX3.out.cell (j := 1) rfl; have x2 := HX3.out.cell (j := 2) rfl; have x3 := HX3.out.cell (j := 3) rfl; have x4 := HX3.out.cell (j := 4) rfl; have x5 := HX3.out.cell (j := 5) rfl)
      have hB3 : Below (w.heap.size + 2) wr w3 := ((Below.refl _ wr).alloc hsz _).grown hgrow (by simp <;> omega) (fun k e => (HO.out.lt k e).1)
      have hs3 := hB3.size
      have hR3 : Rd w3 w.heap.size s a' (.slice (some ⟨w.heap.size + 1, 0, none⟩) 8 8) := ⟨HRd.out.blk.under hB3 (by omega), HRd.out.le, HRd.out.sz⟩
      have hT3 : BlockAt w3 (w.heap.size + 1) (takersC w.heap.size) 175 := HTb.out.under hB3 (by omega)
      have hE3 : LexEnv w3 := HEv.out.under (hB3.mono (by omega)) Hrp.out
      have hB4 := below_lex w3 (.cells (symC y'.kind (strOfNums y'.text) y'.tk (strOfNums y'.tt) (strOfNums y'.te) y'.place) 64)
      have HNx := Lib.hid (next_out HE.out _ _ s a' (acc ++ [y']) T _ (hR3.below hB4) (hT3.kept hB4) (by omega) (hE3.below hB4) Hrp.out HGot.out)
      have HO3 := Lib.hid hown'
      have HB3 : Hid (Below w.heap.size w w3) := Lib.hid (HBl.out.trans (hB3.mono (by omega)))
      have HT3 := Lib.hid hT3
      have HE3 := Lib.hid hE3
      have hX4 := block_new w3 (symC y'.kind (strOfNums y'.text) y'.tk (strOfNums y'.tt) (strOfNums y'.te) y'.place) 64
      have HX4 := Lib.hid hX4
      clear hR3 hT3 hE3 hB4 hB3 hown' hgrow x0 x1 x2 x3 x4 x5 hX4
      refine HNx.out.mono ?_
      rintro e w5 ⟨ok5, y5, a5, rfl, hR5, hM5, ha5, hok5, hno5⟩
      have HR5 := Lib.hid hR5
      have HM5 := Lib.hid hM5
      have HOk5 := Lib.hid hok5
      have HNo5 := Lib.hid hno5
      have hs5 := hM5.size
      rw [World.size_alloc] at hs5
      have HX5 := Lib.hid (hM5.at_ HX4.out (by omega))
      have z0 := HX5.out.cell (j := 0) rfl
      have z1 := HX5.out.cell (j := 1) rfl
      have z2 := HX5.out.cell (j := 2) rfl
      have z3 := HX5.out.cell (j := 3) rfl
      have z4 := HX5.out.cell (j := 4) rfl
      have z5 := HX5.out.cell (j := 5) rfl
      have zf : ∀ j, w5.frozen? ⟨w3.heap.size, j, none⟩ = false := fun j => HX5.out.free j
      clear hR5 hM5 hok5 hno5 HNx
      go_wp2
      go_roundg (s.size - a5 + if ok5 = true then 1 else 0)
      case rel =>
        have hb45 : Below w.heap.size (w3.alloc (.cells (symC y'.kind (strOfNums y'.text) y'.tk (strOfNums y'.tt) (strOfNums y'.te) y'.place) 64)) w5 := HM5.out.below (by simp <;> omega) (Nat.le_refl _)
        have hb5 : Below w.heap.size w w5 := (HB3.out.alloc (by omega) _).trans hb45
        have hlt := HO3.out.lt
        refine ⟨acc ++ [y'], y5, a5, ok5, w3.heap.size, rfl, rfl, ?_, ?_, by omega, HX5.out.set6 _ _ _ _ _ _, ⟨HR5.out.blk.other6 (by omega) _ _ _ _ _ _, HR5.out.le, HR5.out.sz⟩, ?_, ?_, below_set6 hb5 (by omega) _ _ _ _ _ _, by simp [World.setCell]; omega, by rw [List.length_append, List.length_singleton]; omega, fun h => ?_, fun h => HNo5.out h, Nat.le_refl _⟩
        · have hk := (HO3.out.alloc (.cells (symC y'.kind (strOfNums y'.text) y'.tk (strOfNums y'.tt) (strOfNums y'.te) y'.place) 64)).kept (row := some w.heap.size) ⟨HM5.out.os, HM5.out.tape, HM5.out.output, HM5.out.size, fun k hk hn => HM5.out.block k hk (fun e => hn (by rw [e]))⟩ (.inr (fun e => by have := (hlt _ e).1; omega))
          rw [List.length_append, List.length_singleton, HFl.out]
          exact hk.set6 (fun e => by have := (hlt _ e).2; omega) _ _ _ _ _ _
        · exact fun e => by have := (hlt _ e).2; omega
        · exact (HM5.out.at_ (HT3.out.alloc _) (by omega)).other6 (by omega) _ _ _ _ _ _
        · exact ((HE3.out.below (below_lex _ _)).under hb45 Hrp.out).under (below_set6 (Below.refl _ _) (by omega) _ _ _ _ _ _) Hrp.out
        · have := HOk5.out h
          exact ⟨by rw [List.length_append, List.length_singleton]; omega, this.2⟩
      case measure =>
        cases ok5 with
        | true =>
          have := (HOk5.out rfl).1
          have := HR5.out.le
          simp only [if_true]
          omega
        | false =>
          simp only [Bool.false_eq_true, if_false]
          omega

set_option maxRecDepth 100000 in
set_option maxHeartbeats 2000000 in
theorem all_any (hE : EscOK) (s : ByteArray) (hmax : s.size ≤ 1000000000) (w : World) (hv : LexEnv w) (hrp : 0 < w.heap.size ∧ 1 < w.heap.size ∧ 4 < w.heap.size) :
    Calls Tryz.prog 44 #[.string s] w (AllOut s w) := by
  by_cases hl : 1048576 < s.size
  · obtain ⟨F, hF⟩ : ∃ F, F = AllOut s w := ⟨_, rfl⟩
    have HF : Hid (F (.returned (.tuple #[.slice none 0 0, .int .i64 0, .int .i64 3])) w) := Lib.hid (by
      rw [hF]
      unfold AllOut
      rw [if_pos hl]
      exact ⟨Below.refl _ _, rfl⟩)
    rw [← hF]
    clear hF
    have dl : decide ((1048576 : Int) < (s.size : Int)) = true := by simp; omega
    go_enter Tryz.func44, Tryz.ntmps44
    go_wp2
    go_ret3
    exact HF.out
  · by_cases hw : wfL (bs s) < s.size
    · obtain ⟨F, hF⟩ : ∃ F, F = AllOut s w := ⟨_, rfl⟩
      have HF : Hid (F (.returned (.tuple #[.slice none 0 0, .int .i64 (wfL (bs s)), .int .i64 4])) w) := Lib.hid (by
        rw [hF]
        unfold AllOut
        rw [if_neg hl, if_pos hw]
        exact ⟨Below.refl _ _, rfl⟩)
      rw [← hF]
      have HW := Lib.hid (wellFormed_any s (by omega) w)
      clear hF
      have dl : decide ((1048576 : Int) < (s.size : Int)) = false := by simp; omega
      have dw : decide (wfL (bs s) < s.size) = true := by simpa using hw
      generalize wfL (bs s) = wf at *
      go_enter Tryz.func44, Tryz.ntmps44
      go_wp2_with (go_at_call 76; refine HW.out.mono ?_; rintro e w' ⟨rfl, rfl⟩)
      go_ret3
      exact HF.out
    · refine all_main hE s w hv hrp (by omega) hw _ (fun W hW h => ?_) (fun v W hW h ho => ?_)
      · unfold AllOut
        rw [if_neg hl, if_neg hw, if_pos h]
        exact ⟨hW, rfl⟩
      · unfold AllOut
        rw [if_neg hl, if_neg hw, if_neg h]
        exact ⟨hW, v, rfl, ho⟩
end Go.Proofs.YtbcoklbfebmpoaaGreatDoor

