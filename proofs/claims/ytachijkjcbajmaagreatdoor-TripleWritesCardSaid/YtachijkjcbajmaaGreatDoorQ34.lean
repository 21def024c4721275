/-
  WHAT THE PROOF STANDS ON, a part of it: LexNext.
-/
import Derived.Test.YtachijkjcbajmaaGreatDoorQ32
import Derived.Defers
import Derived.Recover
/-
  CONTRACTS OF (*reader).next AND OF ITS DEFERRED FUNCTION.
-/

namespace Go.Proofs.YtachijkjcbajmaaGreatDoor
open Go.RowKit
open Utf Term Lex
set_option linter.unusedVariables false
set_option linter.unusedSimpArgs false

/-- The two results of one's own: the symbol's block, and whether there is one. -/
structure Two (W : World) (g : Nat) (cs : Array Value) (b : Bool) : Prop where
  x : BlockAt W g cs 43
  ok : BlockAt W (g + 1) #[.bool b] 4

set_option maxRecDepth 100000 in
set_option maxHeartbeats 2000000 in
theorem catch_panicking (g : Nat) (u : TypeId) (pv : Value) (older : List PanicEntry) (w : World) (h : Two w g zeroC false) :
    CallsD Tryz.prog 87 #[.pointer (some ⟨g, 0, none⟩), .pointer (some ⟨g + 1, 0, none⟩)] (.panicking ({ v := .iface u pv, recovered := false } :: older)) w fun e u' w' =>
      e = .returned (.tuple #[]) ∧ u' = .panicking ({ v := .iface u pv, recovered := true } :: older) ∧ Two w' g zeroC false ∧ Below g w w' := by
  have k0 := h.x.cell (j := 0) rfl
  have k1 := h.x.cell (j := 1) rfl
  have k2 := h.x.cell (j := 2) rfl
  have k3 := h.x.cell (j := 3) rfl
  have k4 := h.x.cell (j := 4) rfl
  have k5 := h.x.cell (j := 5) rfl
  have kf : ∀ j, w.frozen? ⟨g, j, none⟩ = false := fun j => h.x.free j
  have o0 := h.ok.cell (j := 0) rfl
  have of : w.frozen? ⟨g + 1, 0, none⟩ = false := h.ok.free 0
  refine callsD_of_wpS Tryz.func87 rfl fun c₀ cs hu => ?_
  apply wpS_seq
  apply wpS_region
  simp [wpOpsS, go_sem, recoverD, hu, Tryz.ntmps87, Exit.thenS]
  refine wpS_cond (t := true) (by simp [Act.eval, Array.replicate]) ?_
  simp only [if_true]
  apply wpS_region
  simp [wpOpsS, go_sem, k0, k1, k2, k3, k4, k5, kf, o0, of, bodyPostS, results, Tryz.results87]
  exact ⟨⟨(h.x.set6 _ _ _ _ _ _).other (by omega) _ _, (h.ok.other6 (by omega) _ _ _ _ _ _).set 0 _⟩, (below_set6 (Below.refl _ _) (Nat.le_refl _) _ _ _ _ _ _).setCell (by simp) _⟩

theorem catch_idle (p q : Addr) (w : World) :
    CallsD Tryz.prog 87 #[.pointer (some p), .pointer (some q)] .returning w fun e u' w' => e = .returned (.tuple #[]) ∧ u' = .returning ∧ w' = w := by
  refine callsD_of_wpS Tryz.func87 rfl fun c₀ cs hu => ?_
  apply wpS_seq
  apply wpS_region
  simp [wpOpsS, go_sem, recoverD, hu, Tryz.ntmps87, Exit.thenS]
  refine wpS_cond (t := false) (by simp [Act.eval, Array.replicate]) ?_
  simp only [Bool.false_eq_true, if_false]
  refine wpS_of_wp (wp_skip ?_)
  cases c₀
  simp_all [bodyPostS, results, Tryz.results87]

theorem LexEnv.under {B : Nat} {w u : World} (h : LexEnv w) (k : Below B w u) (hB : 0 < B ∧ 1 < B ∧ 2 < B) : LexEnv u where
  len := by
    obtain ⟨m, hm⟩ := h.len
    exact ⟨m, (k.cell (p := ⟨1, 0, none⟩) hB.2.1).trans hm⟩
  err := by
    obtain ⟨ev, h1, h2⟩ := h.err
    exact ⟨ev, (k.cell (p := ⟨2, 0, none⟩) hB.2.2).trans h1, h2⟩
  marks := by
    obtain ⟨tt, fr, hh⟩ := h.marks
    exact ⟨tt, fr, (k.block _ hB.1).trans hh⟩

theorem load_bool (W : World) (g : Nat) (b : Bool) (h : BlockAt W g #[.bool b] 4) : (loadVar 4 ⟨g, 0, none⟩).run Tryz.prog W = .ok (.bool b) W := by
  have hc := h.cell (j := 0) rfl
  simp [go_sem, loadVar, Tryz.underlying4, hc]
theorem results_two {fn : Func} {p q : Tmp} (h : fn.results = #[.cell p 43, .cell q 4]) (tmps : Array Value) (w : World) (g : Nat) (x0 x1 x2 x3 x4 x5 : Value) (b : Bool)
    (hp : tmps.getD p undef = .pointer (some ⟨g, 0, none⟩)) (hq : tmps.getD q undef = .pointer (some ⟨g + 1, 0, none⟩)) (hx : BlockAt w g #[x0, x1, x2, x3, x4, x5] 43) (hb : BlockAt w (g + 1) #[.bool b] 4) :
    (results fn tmps).run Tryz.prog w = .ok (.tuple #[.agg #[x0, x1, x2, x3, x4, x5], .bool b]) w := by
  have h1 := run_loadVar_row (P := Tryz.prog) w g 43 43 #[x0, x1, x2, x3, x4, x5] (0, 0) _ hx Tryz.underlying43 rfl (by kernel_rfl)
  have h2 := load_bool w (g + 1) b hb
  have hp' : tmps[p]?.getD undef = .pointer (some ⟨g, 0, none⟩) := by simpa using hp
  have hq' : tmps[q]?.getD undef = .pointer (some ⟨g + 1, 0, none⟩) := by simpa using hq
  simp only [results, h]
  simp [Sem.run_bind, Result.andThen, hp', hq', asAddr, h1, h2]

theorem BlockAt.under {w u : World} {g B : Nat} {cs : Array Value} {t : TypeId} (h : BlockAt w g cs t) (k : Below B w u) (hg : g < B) : BlockAt u g cs t := by
  unfold BlockAt at *
  rw [k.block g hg]
  exact h
theorem Moves.then {g : Nat} {u v w : World} (h : Moves g u v) (k : Below u.heap.size v w) : Moves g u w :=
  ⟨k.os.trans h.os, k.tape.trans h.tape, k.output.trans h.output, Nat.le_trans h.size k.size, fun i hi hn => (k.block i hi).trans (h.block i hi hn)⟩

/-- What next does. -/
def Nexted (rp : Nat) (s : ByteArray) (a : Nat) (tv : Value) (w : World) (e : Ending) (w' : World) : Prop :=
  match nextL ((bs s).drop a) with
  | some (x, n) => e = .returned (.tuple #[symV (x.move a), .bool true]) ∧ Rd w' rp s (a + n) tv ∧ Moves rp w w'
  | none => e = .returned (.tuple #[.agg zeroC, .bool false]) ∧ Rd w' rp s (a + sk false ((bs s).drop a)) tv ∧ Moves rp w w'

set_option maxRecDepth 100000 in
set_option maxHeartbeats 8000000 in
theorem next_any (hE : EscOK) (rp tb : Nat) (s : ByteArray) (a : Nat) (w : World) (h : Rd w rp s a (.slice (some ⟨tb, 0, none⟩) 8 8)) (ht : BlockAt w tb (takersC rp) 149) (htb : tb ≠ rp) (hv : LexEnv w) (hrp : 0 < rp ∧ 1 < rp ∧ 2 < rp) :
    Calls Tryz.prog 59 #[.pointer (some ⟨rp, 0, none⟩)] w (Nexted rp s a (.slice (some ⟨tb, 0, none⟩) 8 8) w) := by
  have hmf : ∀ (fn : Fn) (first cap : Array Value) (w : World), (Instr.makeFunc fn first cap).run Tryz.prog w = .ok (.func fn first cap) w := fun _ _ _ _ => rfl
  have hrw : rp < w.heap.size := (Array.getElem?_eq_some_iff.1 h.blk).1
  have hB : Below w.heap.size w ((w.alloc (.cells zeroC 43)).alloc (.cells #[.bool false] 4)) := below_next (below_lex _ _) (below_lex _ _)
  have hT : Two ((w.alloc (.cells zeroC 43)).alloc (.cells #[.bool false] 4)) w.heap.size zeroC false := ⟨(block_new w _ _).alloc _, by
    have := block_new (w.alloc (.cells zeroC 43)) #[.bool false] 4
    rwa [World.size_alloc] at this⟩
  obtain ⟨b, hb⟩ : ∃ b, b = a + sk false ((bs s).drop a) := ⟨_, rfl⟩
  have HS := Lib.hid (skip_any rp s a _ _ (h.below hB))
  obtain ⟨W0, hW0⟩ : ∃ W0, W0 = (w.alloc (.cells zeroC 43)).alloc (.cells #[.bool false] 4) := ⟨_, rfl⟩
  have hsz0 : W0.heap.size = w.heap.size + 2 := by rw [hW0]; simp
  have HW0 := Lib.hid hW0
  rw [← hW0, ← hb] at HS
  rw [← hW0] at hB hT
  have HB := Lib.hid hB
  have HT := Lib.hid hT
  have HSz := Lib.hid hsz0
  obtain ⟨F, hF⟩ : ∃ F, F = Nexted rp s a (.slice (some ⟨tb, 0, none⟩) 8 8) w := ⟨_, rfl⟩
  rw [← hF]
  have HF := Lib.hid hF
  have H := Lib.hid h
  have Ht := Lib.hid ht
  have Hv := Lib.hid hv
  have Hb := Lib.hid hb
  have HE := Lib.hid hE
  clear hF h ht hv hb hE hB hT hW0 hsz0
  go_enter_defers Tryz.func59, Tryz.ntmps59
  go_wp2_with fail
  rw [HW0.out] at HS
  refine HS.out.mono ?_
  rintro e w1 ⟨rfl, hR1, hM1⟩
  rw [← HW0.out] at hM1
  have hs1 := hM1.size
  rw [HSz.out] at hs1
  have HT1 : Hid (Two w1 w.heap.size zeroC false) := Lib.hid ⟨hM1.at_ HT.out.x (by omega), hM1.at_ HT.out.ok (by omega)⟩
  have HM1 : Hid (Moves rp w w1) := Lib.hid ((Moves.of_below HB.out).trans hM1)
  have Ht1 : Hid (BlockAt w1 tb (takersC rp) 149) := Lib.hid (HM1.out.at_ Ht.out htb)
  have Hv1 : Hid (LexEnv w1) := Lib.hid (Hv.out.under (HM1.out.below (B := rp) (by omega) (Nat.le_refl _)) hrp)
  have HR1 := Lib.hid hR1
  have c0 := hR1.at_.c0
  have c1 := hR1.at_.c1
  have hbs := hR1.le
  have hss := hR1.sz
  clear hM1 HS hR1 HT
  go_wp2_with fail
  go_quiet (fail)
  clear c0 c1
  have HT2 := fun (n : Nat) => Lib.hid (show Two (w1.drewN n) w.heap.size zeroC false from ⟨HT1.out.x.drew n, HT1.out.ok.drew n⟩)
  have k0 := HT1.out.x.cell (j := 0) rfl
  have k1 := HT1.out.x.cell (j := 1) rfl
  have k2 := HT1.out.x.cell (j := 2) rfl
  have k3 := HT1.out.x.cell (j := 3) rfl
  have k4 := HT1.out.x.cell (j := 4) rfl
  have k5 := HT1.out.x.cell (j := 5) rfl
  have kf : ∀ j, w1.frozen? ⟨w.heap.size, j, none⟩ = false := fun j => HT1.out.x.free j
  have o0 := HT1.out.ok.cell (j := 0) rfl
  have of : w1.frozen? ⟨w.heap.size + 1, 0, none⟩ = false := HT1.out.ok.free 0
  by_cases hend : b = s.size
  · have e1 : ((b : Int) == (s.size : Int)) = true := by simp [hend]
    have HX : Hid (∀ W, Rd W rp s b (.slice (some ⟨tb, 0, none⟩) 8 8) → Moves rp w W → F (.returned (.tuple #[.agg zeroC, .bool false])) W) := Lib.hid (fun W h1 h2 => by
      rw [HF.out]
      unfold Nexted
      have hn : nextL ((bs s).drop a) = none := by
        unfold nextL
        rw [if_pos (by rw [List.drop_drop, ← Hb.out, hend]; exact List.drop_eq_nil_of_le (by rw [bs_length]; exact Nat.le_refl _))]
      rw [hn]
      exact ⟨rfl, by rw [← Hb.out]; exact h1, h2⟩)
    go_wp2
    refine ⟨_, results_two rfl _ _ w.heap.size _ _ _ _ _ _ false rfl rfl ((HT1.out.x.drew _).set6 _ _ _ _ _ _ |>.other (by omega) _ _) (((HT1.out.ok.drew _).other6 (by omega) _ _ _ _ _ _).set 0 _), HX.out _ ?_ ?_⟩
    · exact ⟨((HR1.out.drew _).blk.other6 (by omega) _ _ _ _ _ _).other (by omega) _ _, HR1.out.le, HR1.out.sz⟩
    · exact ((HM1.out.drew _).fresh6 (Nat.le_refl _) _ _ _ _ _ _).fresh (by omega) _ _
  · have e1 : ((b : Int) == (s.size : Int)) = false := by simp; omega
    have hl : (bs s).drop b ≠ [] := by
      intro h
      have := List.drop_eq_nil_iff.1 h
      rw [bs_length] at this
      omega
    have hTk := fun (n : Nat) => Lib.hid (take_any HE.out rp tb s b (w1.drewN n) (HR1.out.drew n) (Ht1.out.drew n) (Hv1.out.below (lex_drewN _ _ n)))
    cases ho : one ((bs s).drop b) with
    | got x n =>
      have HX : Hid (∀ W, Rd W rp s (b + n) (.slice (some ⟨tb, 0, none⟩) 8 8) → Moves rp w W → F (.returned (.tuple #[symV { x with place := b }, .bool true])) W) := Lib.hid (fun W h1 h2 => by
        rw [HF.out]
        unfold Nexted
        have hn : nextL ((bs s).drop a) = some ({ x with place := sk false ((bs s).drop a) }, sk false ((bs s).drop a) + n) := by
          unfold nextL
          rw [List.drop_drop, ← Hb.out, if_neg hl, ho]
        rw [hn]
        refine ⟨?_, by rw [← Nat.add_assoc, ← Hb.out]; exact h1, h2⟩
        simp only [Sym.move]
        rw [← Hb.out])
      rw [ho] at hTk
      have hTk' : ∀ n', Hid (Calls Tryz.prog 88 #[.pointer (some ⟨rp, 0, none⟩)] (w1.drewN n') fun e w' => e = .returned (.agg (symC x.kind (strOfNums x.text) x.tk (strOfNums x.tt) (strOfNums x.te) b)) ∧ Rd w' rp s (b + n) (.slice (some ⟨tb, 0, none⟩) 8 8) ∧ Moves rp (w1.drewN n') w') := hTk
      clear hTk ho HF
      unfold symV symA at HX
      simp only at HX
      generalize (x.kind : Int) = x1 at *
      generalize strOfNums x.text = x2 at *
      generalize (x.tk : Int) = x3 at *
      generalize strOfNums x.tt = x4 at *
      generalize strOfNums x.te = x5 at *
      clear k0 k1 k2 k3 k4 k5 kf o0 of
      go_wp2_with fail
      refine (hTk' _).out.mono ?_
      rintro e w2 ⟨rfl, hR2, hM2⟩
      have HT2 : Hid (Two w2 w.heap.size zeroC false) := Lib.hid ⟨hM2.at_ (HT1.out.x.drew _) (by omega), hM2.at_ (HT1.out.ok.drew _) (by omega)⟩
      have HM2 : Hid (Moves rp w w2) := Lib.hid ((HM1.out.drew _).trans hM2)
      have HR2 := Lib.hid hR2
      have k0 := HT2.out.x.cell (j := 0) rfl
      have k1 := HT2.out.x.cell (j := 1) rfl
      have k2 := HT2.out.x.cell (j := 2) rfl
      have k3 := HT2.out.x.cell (j := 3) rfl
      have k4 := HT2.out.x.cell (j := 4) rfl
      have k5 := HT2.out.x.cell (j := 5) rfl
      have kf : ∀ j, w2.frozen? ⟨w.heap.size, j, none⟩ = false := fun j => HT2.out.x.free j
      have o0 := HT2.out.ok.cell (j := 0) rfl
      have of : w2.frozen? ⟨w.heap.size + 1, 0, none⟩ = false := HT2.out.ok.free 0
      clear hR2 hM2
      go_wp2
      refine leaves_cons (f := 87) (args := #[.pointer (some ⟨w.heap.size, 0, none⟩), .pointer (some ⟨w.heap.size + 1, 0, none⟩)]) (by simp) (by simp [go_sem]) ?_
      refine (catch_idle _ _ _).mono ?_
      rintro e u' w'' ⟨rfl, rfl, rfl⟩
      refine ⟨_, results_two rfl _ _ w.heap.size _ _ _ _ _ _ true rfl rfl ((HT2.out.x.set6 _ _ _ _ _ _).other (by omega) _ _) ((HT2.out.ok.other6 (by omega) _ _ _ _ _ _).set 0 _), HX.out _ ?_ ?_⟩
      · exact ⟨(HR2.out.blk.other6 (by omega) _ _ _ _ _ _).other (by omega) _ _, HR2.out.le, HR2.out.sz⟩
      · exact (HM2.out.fresh6 (Nat.le_refl _) _ _ _ _ _ _).fresh (by omega) _ _
    | no =>
      have HX : Hid (∀ W, Rd W rp s b (.slice (some ⟨tb, 0, none⟩) 8 8) → Moves rp w W → F (.returned (.tuple #[.agg zeroC, .bool false])) W) := Lib.hid (fun W h1 h2 => by
        rw [HF.out]
        unfold Nexted
        have hn : nextL ((bs s).drop a) = none := by
          unfold nextL
          rw [List.drop_drop, ← Hb.out, if_neg hl, ho]
        rw [hn]
        exact ⟨rfl, by rw [← Hb.out]; exact h1, h2⟩)
      rw [ho] at hTk
      have hTk' : ∀ n', Hid (Calls Tryz.prog 88 #[.pointer (some ⟨rp, 0, none⟩)] (w1.drewN n') fun e w' => e = badE ∧ Below (w1.drewN n').heap.size (w1.drewN n') w') := hTk
      clear hTk ho HF k0 k1 k2 k3 k4 k5 kf o0 of
      go_wp2_with fail
      refine (hTk' _).out.mono ?_
      rintro e w2 ⟨rfl, hB2⟩
      have HT3 : Hid (Two w2 w.heap.size zeroC false) := Lib.hid ⟨(HT1.out.x.drew _).kept hB2, (HT1.out.ok.drew _).kept hB2⟩
      have HM2 : Hid (Moves rp w w2) := Lib.hid ((HM1.out.drew _).trans (Moves.of_below hB2))
      have HR2 := Lib.hid ((HR1.out.drew _).below hB2)
      clear hB2
      go_wp2
      refine leaves_cons (f := 87) (args := #[.pointer (some ⟨w.heap.size, 0, none⟩), .pointer (some ⟨w.heap.size + 1, 0, none⟩)]) (by simp) (by simp [go_sem]) ?_
      refine (catch_panicking _ _ _ _ _ HT3.out).mono ?_
      rintro e u' w'' ⟨rfl, rfl, hT4, hB4⟩
      refine ⟨_, results_two rfl _ _ w.heap.size _ _ _ _ _ _ false rfl rfl hT4.x hT4.ok, HX.out _ ?_ ?_⟩
      · exact ⟨(HR2.out.blk.under hB4 hrw), HR2.out.le, HR2.out.sz⟩
      · exact HM2.out.then hB4
    | bad =>
      have HX : Hid (∀ W, Rd W rp s b (.slice (some ⟨tb, 0, none⟩) 8 8) → Moves rp w W → F (.returned (.tuple #[.agg zeroC, .bool false])) W) := Lib.hid (fun W h1 h2 => by
        rw [HF.out]
        unfold Nexted
        have hn : nextL ((bs s).drop a) = none := by
          unfold nextL
          rw [List.drop_drop, ← Hb.out, if_neg hl, ho]
        rw [hn]
        exact ⟨rfl, by rw [← Hb.out]; exact h1, h2⟩)
      rw [ho] at hTk
      have hTk' : ∀ n', Hid (Calls Tryz.prog 88 #[.pointer (some ⟨rp, 0, none⟩)] (w1.drewN n') fun e w' => e = badE ∧ Below (w1.drewN n').heap.size (w1.drewN n') w') := hTk
      clear hTk ho HF k0 k1 k2 k3 k4 k5 kf o0 of
      go_wp2_with fail
      refine (hTk' _).out.mono ?_
      rintro e w2 ⟨rfl, hB2⟩
      have HT3 : Hid (Two w2 w.heap.size zeroC false) := Lib.hid ⟨(HT1.out.x.drew _).kept hB2, (HT1.out.ok.drew _).kept hB2⟩
      have HM2 : Hid (Moves rp w w2) := Lib.hid ((HM1.out.drew _).trans (Moves.of_below hB2))
      have HR2 := Lib.hid ((HR1.out.drew _).below hB2)
      clear hB2
      go_wp2
      refine leaves_cons (f := 87) (args := #[.pointer (some ⟨w.heap.size, 0, none⟩), .pointer (some ⟨w.heap.size + 1, 0, none⟩)]) (by simp) (by simp [go_sem]) ?_
      refine (catch_panicking _ _ _ _ _ HT3.out).mono ?_
      rintro e u' w'' ⟨rfl, rfl, hT4, hB4⟩
      refine ⟨_, results_two rfl _ _ w.heap.size _ _ _ _ _ _ false rfl rfl hT4.x hT4.ok, HX.out _ ?_ ?_⟩
      · exact ⟨(HR2.out.blk.under hB4 hrw), HR2.out.le, HR2.out.sz⟩
      · exact HM2.out.then hB4
end Go.Proofs.YtachijkjcbajmaaGreatDoor
