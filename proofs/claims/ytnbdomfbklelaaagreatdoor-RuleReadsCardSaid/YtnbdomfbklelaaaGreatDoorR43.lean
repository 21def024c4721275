import Derived.Test.YtnbdomfbklelaaaGreatDoorR42
import Derived.Test.YtnbdomfbklelaaaGreatDoorR40
import Derived.Deep.QuietTactic
import Derived.BigQuiet
import Derived.IntWalk
import Derived.Test.YtnbdomfbklelaaaGreatDoorR34
import Derived.Test.YtnbdomfbklelaaaGreatDoorR30
import Derived.Deep.RegionHeld3
set_option linter.unusedSimpArgs false
set_option linter.unusedVariables false
namespace Go.Proofs.YtnbdomfbklelaaaGreatDoor
open Go.RowKit
open Utf Term Lex
abbrev preC (a b : ByteArray) : Array Value := #[.string a, .string b]
def PfIx (L : List Sym) (i : Nat) (T : Tk (ByteArray × ByteArray)) (e : Ending) : Prop :=
 match T with
 | .no l => ∃ (k : Nat) (a b : ByteArray), k ≤ L.length ∧ l = L.drop k ∧ e = .returned (.tuple #[.agg (preC a b), .int .i64 (-1 - (k : Int))])
 | .yes q l => ∃ k : Nat, i < k ∧ k ≤ L.length ∧ l = L.drop k ∧ e = .returned (.tuple #[.agg (preC q.1 q.2), .int .i64 (k : Int)])
theorem results_pre_tmp {fn : Func} {p u : Tmp} (h : fn.results = #[.cell p 46, .tmp u]) (tmps : Array Value) (w : World) (g : Nat) (x0 x1 x : Value)
 (hp : tmps.getD p undef = .pointer (some ⟨g, 0, none⟩)) (hu : tmps.getD u undef = x) (hx : BlockAt w g #[x0, x1] 46) :
 (results fn tmps).run Tryz.prog w = .ok (.tuple #[.agg #[x0, x1], x]) w := by
 rw [results_cell_tmp h, hp, hu]
 simp [asAddr, run_loadVar_row (P := Tryz.prog) w g 46 46 #[x0, x1] (0, 0) _ hx Tryz.underlying46 rfl (by kernel_rfl), Result.andThen]
structure PreSt (w : World) (a b : ByteArray) (W : World) : Prop where
 low : Below w.heap.size w W
 res : BlockAt W w.heap.size (preC ⟨#[]⟩ ⟨#[]⟩) 46
 x : BlockAt W (w.heap.size + 1) (preC a b) 46
theorem PreSt.below {w W U : World} {a b : ByteArray} (h : PreSt w a b W) (k : Below W.heap.size W U) : PreSt w a b U :=
 ⟨h.low.trans (k.mono h.low.size), h.res.kept k, h.x.kept k⟩
theorem PreSt.set0 {w W : World} {a b : ByteArray} (h : PreSt w a b W) (c : ByteArray) : PreSt w c b (W.setCell ⟨w.heap.size + 1, 0, none⟩ (.string c)) :=
 ⟨h.low.setCell (p := ⟨w.heap.size + 1, 0, none⟩) (Nat.le_succ _) _, h.res.other (by omega) _ _, h.x.set 0 _⟩
theorem PreSt.set1 {w W : World} {a b : ByteArray} (h : PreSt w a b W) (c : ByteArray) : PreSt w a c (W.setCell ⟨w.heap.size + 1, 1, none⟩ (.string c)) :=
 ⟨h.low.setCell (p := ⟨w.heap.size + 1, 1, none⟩) (Nat.le_succ _) _, h.res.other (by omega) _ _, h.x.set 1 _⟩
theorem PreSt.fin {w W : World} {a b : ByteArray} (h : PreSt w a b W) (x0 x1 : Value) : BlockAt ((W.setCell ⟨w.heap.size, 0, none⟩ x0).setCell ⟨w.heap.size, 1, none⟩ x1) w.heap.size #[x0, x1] 46 ∧ Below w.heap.size w ((W.setCell ⟨w.heap.size, 0, none⟩ x0).setCell ⟨w.heap.size, 1, none⟩ x1) :=
 ⟨(h.res.set 0 x0).set 1 x1, (h.low.setCell (p := ⟨w.heap.size, 0, none⟩) (Nat.le_refl _) _).setCell (p := ⟨w.heap.size, 1, none⟩) (Nat.le_refl _) _⟩
theorem PreSt.cells {w W : World} {a b : ByteArray} (h : PreSt w a b W) : W.cell? ⟨w.heap.size + 1, 0, none⟩ = some (.string a) ∧ W.cell? ⟨w.heap.size + 1, 1, none⟩ = some (.string b) ∧ (∀ j, W.frozen? ⟨w.heap.size + 1, j, none⟩ = false) ∧ W.cell? ⟨w.heap.size, 0, none⟩ = some (.string ⟨#[]⟩) ∧ W.cell? ⟨w.heap.size, 1, none⟩ = some (.string ⟨#[]⟩) ∧ (∀ j, W.frozen? ⟨w.heap.size, j, none⟩ = false) :=
 ⟨h.x.cell (j := 0) rfl, h.x.cell (j := 1) rfl, fun j => h.x.free j, h.res.cell (j := 0) rfl, h.res.cell (j := 1) rfl, fun j => h.res.free j⟩
set_option maxRecDepth 100000 in
set_option maxHeartbeats 16000000 in
theorem refPrefR_any (N : Nat) (ps : List (ByteArray × ByteArray)) (ptr p : Option Addr) (cap : Nat) (L : List Sym) (i : Nat) (hi : i < L.length) (w : World) (h : RefIn N ps ptr p cap L w) :
 Calls Tryz.prog 28 #[.slice p L.length cap, .int .i64 (i : Int)] w fun e w' => PfIx L i (prefS (L.drop (i + 1))) e ∧ Below w.heap.size w w' := by
 obtain ⟨Q, hQ⟩ : ∃ Q : Ending → World → Prop, Q = fun e w' => PfIx L i (prefS (L.drop (i + 1))) e ∧ Below w.heap.size w w' := ⟨_, rfl⟩
 rw [← hQ]
 have H := Lib.hid h
 have HN : Hid (∀ (k : Nat) a b W, k ≤ L.length → prefS (L.drop (i + 1)) = .no (L.drop k) → Below w.heap.size w W → Q (.returned (.tuple #[.agg (preC a b), .int .i64 (-1 - (k : Int))])) W) := Lib.hid (fun k a b W h1 h2 h3 => by
  rw [hQ, h2]; exact ⟨⟨k, a, b, h1, rfl, rfl⟩, h3⟩)
 have HY : Hid (∀ (k : Nat) a b W, i < k → k ≤ L.length → prefS (L.drop (i + 1)) = .yes (a, b) (L.drop k) → Below w.heap.size w W → Q (.returned (.tuple #[.agg (preC a b), .int .i64 (k : Int)])) W) := Lib.hid (fun k a b W h0 h1 h2 h3 => by
  rw [hQ, h2]; exact ⟨⟨k, h0, h1, rfl, rfl⟩, h3⟩)
 have HMk := Lib.hid (fun m ms hm (j : Nat) (hj : j ≤ L.length) W (hW : Below w.heap.size w W) => refMarkR_any N ps ptr p cap L m ms hm j hj W (h.below hW))
 have HS0 : Hid (PreSt w ⟨#[]⟩ ⟨#[]⟩ ((w.alloc (.cells (preC ⟨#[]⟩ ⟨#[]⟩) 46)).alloc (.cells (preC ⟨#[]⟩ ⟨#[]⟩) 46))) := Lib.hid ⟨below_next (below_lex w _) (below_lex _ _), (block_new w (preC ⟨#[]⟩ ⟨#[]⟩) _).alloc _, by
  have := block_new (w.alloc (.cells (preC ⟨#[]⟩ ⟨#[]⟩) 46)) (preC ⟨#[]⟩ ⟨#[]⟩) 46
  rwa [World.size_alloc] at this⟩
 have HCell : Hid (∀ (j : Nat) (hj : j < L.length) W, Below w.heap.size w W → ∃ g o, p = some ⟨g, o, none⟩ ∧ SixAt W g (o + j * 6) (symC L[j].kind (strOfNums L[j].text) L[j].tk (strOfNums L[j].tt) (strOfNums L[j].te) L[j].place)) := Lib.hid (fun j hj W hW => (h.below hW).sl.sixAt (List.getElem?_eq_getElem hj))
 have HDr : Hid (∀ (j : Nat) (hj : j < L.length), L.drop j = L[j] :: L.drop (j + 1)) := Lib.hid (fun j hj => List.drop_eq_getElem_cons hj)
 have hfew := h.few
 have i0 : (0 : Int) ≤ (i : Int) := by omega
 have hb1 : i + 1 ≤ 1000000001 := by omega
 clear hQ h
 go_enter Tryz.func28, Tryz.ntmps28
 go_upto_region 2 with fail
 generalize (w.alloc (.cells (preC ⟨#[]⟩ ⟨#[]⟩) 46)).alloc (.cells (preC ⟨#[]⟩ ⟨#[]⟩) 46) = W0 at *
 go_upto_region 3 with fail
 rw [show (i : Int) + 1 = ((i + 1 : Nat) : Int) from by omega]
 generalize hm : i + 1 = m at *
 have HMi := Lib.hid hm
 have hmn : m ≤ L.length := by omega
 have him : i < m := by omega
 have hm1 : m + 1 ≤ 1000000002 := by omega
 have hm2 : m + 1 + 1 ≤ 1000000003 := by omega
 have m0 : (0 : Int) ≤ (m : Int) := by omega
 clear hm hb1 i0
 by_cases hlt : m < L.length
 ·have hd := HDr.out m hlt
  have hc := fun W hW => HCell.out m hlt W hW
  have hgx := H.out.good L[m] (List.getElem_mem hlt)
  generalize L[m] = x at *
  obtain ⟨g, o, rfl, s6⟩ := hc W0 HS0.out.low
  have c0 : W0.cell? ⟨g, o + m * 6, none⟩ = some (.int .i64 x.kind) := s6 0 (by omega)
  have c1 : W0.cell? ⟨g, o + m * 6 + 1, none⟩ = some (.string (strOfNums x.text)) := s6 1 (by omega)
  have HC := Lib.hid hc
  have d1 : decide ((L.length : Int) ≤ (m : Int)) = false := by simp; omega
  have d1n : decide (L.length ≤ m) = false := by simp; omega
  have b1 : (m : Int) < (L.length : Int) := by omega
  clear s6 hc
  by_cases hk : x.kind = 7
  ·have k7 : ((x.kind : Nat) : Int) = 7 := by rw [hk]; rfl
   obtain ⟨a, ha⟩ : ∃ a, strOfNums x.text = a := ⟨_, rfl⟩
   have hbs : bs a = x.text := by rw [← ha]; exact bs_strOfNums hgx.bt
   have hsz : 1 ≤ a.size ∧ a.size ≤ 9000 := by
    have h1 := hgx.name hk
    have h2 := hgx.lt
    have h3 := H.out.hN
    rw [← bs_length, hbs]
    refine ⟨?_, by omega⟩
    cases hx : x.text with
    | nil => rw [hx] at h1; simp at h1
    | cons c r => simp
   obtain ⟨z, hz⟩ : ∃ z, a.size = z + 1 := ⟨a.size - 1, by omega⟩
   have hzl : z < a.size := by omega
   have hE : endsC x.text = decide ((a[z].toNat : Int) = 58) := by
    have hg := bs_get a z hzl
    unfold endsC
    rw [← hbs, List.getLast?_eq_getElem?, bs_length, hz, Nat.add_sub_cancel, hg]
    simp
   rw [ha] at c1
   have l0 : (0 : Int) ≤ (a.size : Int) - 1 := by omega
   have lw : IntKind.i64.wrap ((a.size : Int) - 1) = (a.size : Int) - 1 := IntWalk.i64_in _ (by omega)
   have hidx : ∀ W, (Instr.index 9 (.string a) (.int .i64 ((a.size : Int) - 1))).run Tryz.prog W = .ok (.int .u8 (a[z].toNat : Int)) W := fun W => idx_at a _ z (by omega) hzl W
   have HZz := Lib.hid hz
   generalize hch : (a[z].toNat : Int) = ch at *
   clear hz hch
   rw [k7] at c0
   cases hends : endsC x.text with
   | false =>
    have HX := Lib.hid (HN.out m ⟨#[]⟩ ⟨#[]⟩ · hmn (by rw [hd, prefS, if_neg (by rw [hends]; simp)]))
    rw [hends] at hE
    have hne : (ch == 58) = false := by rw [beq_eq_false_iff_ne]; exact of_decide_eq_false hE.symm
    have hne2 : (ch != 58) = true := by rw [bne_iff_ne]; exact of_decide_eq_false hE.symm
    have HX := Lib.hid HX.out
    clear hi hlt HMk HCell HDr HN HY hd hgx hE hends hk k7 hbs ha HC
    generalize L.length = n at *
    go_quiet (fail)
    have HSq := Lib.hid (HS0.out.below (lex_drewN _ _ nq))
    generalize W0.drewN nq = W1 at *
    obtain ⟨x0, x1, xf, z0, z1, zf⟩ := HSq.out.cells
    go_wp2_with fail
    refine bodyPost_ret (results_pre_tmp rfl _ _ w.heap.size (.string ⟨#[]⟩) (.string ⟨#[]⟩) (.int .i64 (-1 - (m : Int))) rfl rfl (HSq.out.fin _ _).1) rfl ?_
    exact HX.out _ (HSq.out.fin _ _).2
   | true =>
    rw [hends] at hE
    have hne2 : (ch != 58) = false := by
     have := of_decide_eq_true hE.symm
     rw [this]; rfl
    obtain ⟨b, hbd⟩ : ∃ b, b = a.extract 0 z := ⟨_, rfl⟩
    have hsl : ∀ W, (Instr.slice 9 (.string a) none (some (.int .i64 ((a.size : Int) - 1))) none).run Tryz.prog W = .ok (.string b) W := fun W => by
     have := slice_first a z (by omega) W
     rw [show ((z : Nat) : Int) = (a.size : Int) - 1 from by have := HZz.out; omega, ← hbd] at this
     exact this
    have HSb : Hid (S x.text.dropLast = b) := Lib.hid (by
     have h1 : bs b = x.text.dropLast := by rw [hbd, bs_first, hbs]; exact drop_last (by rw [← hbs, bs_length]; exact HZz.out)
     rw [← h1]
     exact bs_inj (bs_strOfNums (bs_byte _)))
    have HE0 : Hid (prefS (L.drop m) = (irS (L.drop (m + 1))).bind fun c L => .yes (b, c) L) := Lib.hid (by rw [hd, prefS, if_pos ⟨hk, hends⟩, HSb.out])
    have HC1 := Lib.hid (fun W hW => (HC.out W hW))
    clear hd hE hends hbd hgx
    have c1d : ∀ nq, (W0.drewN nq).cell? ⟨g, o + m * 6 + 1, none⟩ = some (.string a) := fun _ => c1
    go_quiet (fail)
    have HSq := Lib.hid (HS0.out.below (lex_drewN _ _ nq))
    have c1q := c1d nq
    generalize W0.drewN nq = W1 at *
    obtain ⟨x0, x1, xf, z0, z1, zf⟩ := HSq.out.cells
    clear c0 c1 c1d hidx
    go_upto_region 5 with fail
    go_region_with fail
    all_goals
     have HS5 : Hid (PreSt w b ⟨#[]⟩ ((W1.setCell ⟨w.heap.size + 1, 0, none⟩ (.string b)).drew)) := Lib.hid ((HSq.out.set0 b).below (lex_drewN _ _ 1))
     generalize (W1.setCell ⟨w.heap.size + 1, 0, none⟩ (.string b)).drew = W5 at *
     clear c1q x0 x1 xf z0 z1 zf l0 lw hne2 hsl hsz hzl d1 d1n b1
     go_upto_region 7 with fail
     rw [show (m : Int) + 1 = ((m + 1 : Nat) : Int) from by omega]
     generalize hm3 : m + 1 = m2 at *
     have him2 : i < m2 := by omega
     have hmn2 : m2 ≤ L.length := by omega
     have m20 : (0 : Int) ≤ (m2 : Int) := by omega
     have hmm : m2 + 1 ≤ 1000000003 := by omega
     clear hm3 hm1 hm2 m0 hmn hlt him hi
     obtain ⟨x0, x1, xf, z0, z1, zf⟩ := HS5.out.cells
     by_cases h2 : m2 < L.length
     ·have hd2 := HDr.out m2 h2
      have hc2 := HCell.out m2 h2 W5 HS5.out.low
      have hgy := H.out.good L[m2] (List.getElem_mem h2)
      generalize L[m2] = y at *
      obtain ⟨g', o', e', s6⟩ := hc2
      cases e'
      have c0 : W5.cell? ⟨g, o + m2 * 6, none⟩ = some (.int .i64 y.kind) := s6 0 (by omega)
      have c3 : W5.cell? ⟨g, o + m2 * 6 + 3, none⟩ = some (.string (strOfNums y.tt)) := s6 3 (by omega)
      have d1 : decide ((L.length : Int) ≤ (m2 : Int)) = false := by simp; omega
      have d1n : decide (L.length ≤ m2) = false := by simp; omega
      have b1 : (m2 : Int) < (L.length : Int) := by omega
      by_cases hk1 : y.kind = 1
      ·have k1 : ((y.kind : Nat) : Int) = 1 := by rw [hk1]; rfl
       rw [k1] at c0
       have HE1 : Hid (prefS (L.drop m) = (needS (isMk endM) (L.drop (m2 + 1))).bind fun _ L => .yes (b, S y.tt) L) := Lib.hid (by
        rw [HE0.out, hd2, irS, if_pos hk1]
        cases needS (isMk endM) (L.drop (m2 + 1)) <;> rfl)
       have HS9 := Lib.hid (HS5.out.set1 (S y.tt))
       obtain ⟨X0, X1, XF, Z0, Z1, ZF⟩ := HS9.out.cells
       clear hd2 hgy s6 hk1 k1 X0 X1 XF Z0 Z1 ZF
       go_upto_region 11 with fail
       generalize W5.setCell ⟨w.heap.size + 1, 1, none⟩ (.string (strOfNums y.tt)) = W9 at *
       rw [show (m2 : Int) + 1 = ((m2 + 1 : Nat) : Int) from by omega]
       generalize hm4 : m2 + 1 = m3 at *
       have him3 : i < m3 := by omega
       have hmn3 : m3 ≤ L.length := by omega
       have m30 : (0 : Int) ≤ (m3 : Int) := by omega
       have hmm3 : m3 + 1 ≤ 1000000004 := by omega
       clear hm4 hmm m20 d1 d1n b1 h2 c0 c3 x0 x1 xf z0 z1 zf
       cases tn : takesS (isMk endM) (L.drop m3) with
       | none =>
        have HM := Lib.hid (HMk.out endM ⟨#[46]⟩ rfl m3 hmn3 W9 HS9.out.low false (by rw [tn]; rfl))
        have HX := Lib.hid (HN.out m3 b (S y.tt) · hmn3 (by rw [HE1.out]; unfold needS; rw [tn]; rfl))
        clear tn
        clear HDr HCell HC HC1
        generalize L.length = n at *
        go_upto_region 12 with (go_at_call 37; refine HM.out.mono ?_; rintro e y1 ⟨rfl, hB1⟩; have HS1 := Lib.hid (HS9.out.below hB1); clear hB1)
        obtain ⟨x0, x1, xf, z0, z1, zf⟩ := HS1.out.cells
        go_wp2_with fail
        refine bodyPost_ret (results_pre_tmp rfl _ _ w.heap.size (.string b) (.string (S y.tt)) (.int .i64 (-1 - (m3 : Int))) rfl rfl (HS1.out.fin _ _).1) rfl ?_
        exact HX.out _ (HS1.out.fin _ _).2
       | some L3 =>
        obtain ⟨hm3l, rfl⟩ := takes_drop tn
        have HM := Lib.hid (HMk.out endM ⟨#[46]⟩ rfl m3 hmn3 W9 HS9.out.low true (by rw [tn]; rfl))
        have HX : Hid (∀ W, Below w.heap.size w W → Q (.returned (.tuple #[.agg (preC b (S y.tt)), .int .i64 ((m3 : Int) + 1)])) W) := Lib.hid (fun W hW => by
         have := HY.out (m3 + 1) b (S y.tt) W (by omega) (by omega) (by rw [HE1.out]; unfold needS; rw [tn]; rfl) hW
         rwa [show ((m3 + 1 : Nat) : Int) = (m3 : Int) + 1 from by omega] at this)
        clear tn
        clear HDr HCell HC HC1
        generalize L.length = n at *
        go_upto_region 13 with (go_at_call 37; refine HM.out.mono ?_; rintro e y1 ⟨rfl, hB1⟩; have HS1 := Lib.hid (HS9.out.below hB1); clear hB1)
        obtain ⟨x0, x1, xf, z0, z1, zf⟩ := HS1.out.cells
        go_wp2_with fail
        refine bodyPost_ret (results_pre_tmp rfl _ _ w.heap.size (.string b) (.string (S y.tt)) (.int .i64 ((m3 : Int) + 1)) rfl rfl (HS1.out.fin _ _).1) rfl ?_
        exact HX.out _ (HS1.out.fin _ _).2
      ·have k1 : (((y.kind : Nat) : Int) != 1) = true := by rw [bne_iff_ne]; omega
       have HX := Lib.hid (HN.out m2 b ⟨#[]⟩ · hmn2 (by rw [HE0.out, hd2, irS, if_neg hk1]; rfl))
       clear hd2 hgy s6 hk1 c3
       clear HDr HCell HC HC1
       generalize L.length = n at *
       generalize (y.kind : Int) = kd at *
       go_wp2_with fail
       refine bodyPost_ret (results_pre_tmp rfl _ _ w.heap.size (.string b) (.string ⟨#[]⟩) (.int .i64 (-1 - (m2 : Int))) rfl rfl (HS5.out.fin _ _).1) rfl ?_
       exact HX.out _ (HS5.out.fin _ _).2
     ·have HX := Lib.hid (HN.out m2 b ⟨#[]⟩ · hmn2 (by rw [HE0.out, List.drop_eq_nil_of_le (by omega)]; rfl))
      have d1 : decide ((L.length : Int) ≤ (m2 : Int)) = true := by simp; omega
      have d1n : decide (L.length ≤ m2) = true := by simp; omega
      clear HDr HCell HC HC1
      generalize L.length = n at *
      go_wp2_with fail
      refine bodyPost_ret (results_pre_tmp rfl _ _ w.heap.size (.string b) (.string ⟨#[]⟩) (.int .i64 (-1 - (m2 : Int))) rfl rfl (HS5.out.fin _ _).1) rfl ?_
      exact HX.out _ (HS5.out.fin _ _).2
  ·have d7 : (((x.kind : Nat) : Int) != 7) = true := by rw [bne_iff_ne]; omega
   have HX := Lib.hid (HN.out m ⟨#[]⟩ ⟨#[]⟩ · hmn (by rw [hd, prefS, if_neg (fun h => hk h.1)]))
   clear hi hlt HMk HCell HDr HN HY hd hgx HC hk
   generalize L.length = n at *
   generalize (x.kind : Int) = kd at *
   go_quiet (fail)
   have HSq := Lib.hid (HS0.out.below (lex_drewN _ _ nq))
   generalize W0.drewN nq = W1 at *
   obtain ⟨x0, x1, xf, z0, z1, zf⟩ := HSq.out.cells
   go_wp2_with fail
   refine bodyPost_ret (results_pre_tmp rfl _ _ w.heap.size (.string ⟨#[]⟩) (.string ⟨#[]⟩) (.int .i64 (-1 - (m : Int))) rfl rfl (HSq.out.fin _ _).1) rfl ?_
   exact HX.out _ (HSq.out.fin _ _).2
 ·have HX := Lib.hid (HN.out m ⟨#[]⟩ ⟨#[]⟩ · hmn (by rw [List.drop_eq_nil_of_le (by omega)]; rfl))
  have d1 : decide ((L.length : Int) ≤ (m : Int)) = true := by simp; omega
  have d1n : decide (L.length ≤ m) = true := by simp; omega
  clear hi hlt HMk HCell HDr HN HY
  generalize L.length = n at *
  go_quiet (fail)
  have HSq := Lib.hid (HS0.out.below (lex_drewN _ _ nq))
  generalize W0.drewN nq = W1 at *
  obtain ⟨x0, x1, xf, z0, z1, zf⟩ := HSq.out.cells
  go_wp2_with fail
  refine bodyPost_ret (results_pre_tmp rfl _ _ w.heap.size (.string ⟨#[]⟩) (.string ⟨#[]⟩) (.int .i64 (-1 - (m : Int))) rfl rfl (HSq.out.fin _ _).1) rfl ?_
  exact HX.out _ (HSq.out.fin _ _).2
end Go.Proofs.YtnbdomfbklelaaaGreatDoor
namespace Go.Proofs.YtnbdomfbklelaaaGreatDoor
open Go.RowKit
open Utf Term Lex
theorem refAll_rules (s : ByteArray) (hs : s.size ≤ 9000) (w : World) :
 (∃ p c : Nat, c ≠ 0 ∧ c ≤ 4 ∧ srcS s = .bad p c ∧ Calls Tryz.prog 26 #[.string s] w fun e w' => e = .returned (.tuple #[.slice none 0 0, .int .i64 p, .int .i64 c]) ∧ Below w.heap.size w w') ∨
 (srcS s = srcOf s.size (progS noPre (allL (bs s)).1) ∧ Calls Tryz.prog 26 #[.string s] w fun e w' => ∃ v, e = .returned (.tuple #[v, .int .i64 0, .int .i64 0]) ∧ w'.ownsRow w.heap.size 79 6 v (allL (bs s)).1.length (flatS (allL (bs s)).1) ∧ Below w.heap.size w w') := by
 have h := refAll_is s (by omega) w
 unfold srcS
 by_cases h1 : 1048576 < s.size
 ·omega
 rw [if_neg h1]
 by_cases h2 : wfL (bs s) < s.size
 ·refine .inl ⟨wfL (bs s), 4, by decide, by decide, by rw [if_pos h2], h.mono ?_⟩
  intro e w' h
  unfold AllOut at h
  rw [if_neg h1, if_pos h2] at h
  exact ⟨h.2, h.1⟩
 rw [if_neg h2]
 by_cases h3 : (allL (bs s)).2 < s.size
 ·refine .inl ⟨(allL (bs s)).2, 4, by decide, by decide, by rw [if_pos h3], h.mono ?_⟩
  intro e w' h
  unfold AllOut at h
  rw [if_neg h1, if_neg h2, if_pos h3] at h
  exact ⟨h.2, h.1⟩
 rw [if_neg h3]
 refine .inr ⟨rfl, h.mono ?_⟩
 intro e w' h
 unfold AllOut at h
 rw [if_neg h1, if_neg h2, if_neg h3] at h
 obtain ⟨hB, v, rfl, ho⟩ := h
 exact ⟨v, rfl, ho, hB⟩
def flatPr (ps : List (ByteArray × ByteArray)) : List Value := ps.flatMap fun q => (preC q.1 q.2).toList
theorem flatPr_append (a b : List (ByteArray × ByteArray)) : flatPr (a ++ b) = flatPr a ++ flatPr b := by simp [flatPr]
theorem flatPr_one (q : ByteArray × ByteArray) : flatPr [q] = (preC q.1 q.2).toList := by simp [flatPr]
theorem flatPr_cons (q : ByteArray × ByteArray) (ps : List (ByteArray × ByteArray)) : flatPr (q :: ps) = (preC q.1 q.2).toList ++ flatPr ps := by simp [flatPr]
theorem flatPr_get : ∀ (L : List (ByteArray × ByteArray)) (i c : Nat) (x : ByteArray × ByteArray), L[i]? = some x → c < 2 → (flatPr L)[i * 2 + c]? = (preC x.1 x.2).toList[c]?
 | [], i, c, x, h, _ => by simp at h
 | y :: L, 0, c, x, h, hc => by
  simp only [List.getElem?_cons_zero, Option.some.injEq] at h
  subst h
  rw [flatPr_cons, Nat.zero_mul, Nat.zero_add, List.getElem?_append_left (by show c < 2; exact hc)]
 | y :: L, i + 1, c, x, h, hc => by
  have hl : (preC y.1 y.2).toList.length = 2 := rfl
  rw [flatPr_cons, List.getElem?_append_right (by rw [hl]; omega), hl, show (i + 1) * 2 + c - 2 = i * 2 + c by omega]
  exact flatPr_get L i c x h hc
abbrev ownPr (w : World) (B : Nat) (v : Value) (ps : List (ByteArray × ByteArray)) : Prop := w.ownsRow B 46 2 v ps.length (flatPr ps)
theorem ownPr_form {w : World} {B : Nat} {v : Value} {ps : List (ByteArray × ByteArray)} (h : ownPr w B v ps) : ∃ q c, v = .slice q ps.length c ∧ PreRow w q ps := by
 rcases h.2 with ⟨rfl, hn⟩ | ⟨g, cap, cur, rfl, hb, hg, k1, k2, k3, k4⟩
 ·have hp : ps = [] := List.eq_nil_of_length_eq_zero hn
  subst hp
  exact ⟨none, 0, rfl, PreRow.nil _ _⟩
 ·have hra := own_range h
  refine ⟨_, _, rfl, fun i q hq => ⟨g, 0, rfl, ?_, ?_⟩⟩
  ·have := hra (i * 2 + 0) (.string q.1) (by rw [flatPr_get ps i 0 q hq (by omega)]; rfl)
   exact this
  ·have := hra (i * 2 + 1) (.string q.2) (by rw [flatPr_get ps i 1 q hq (by omega)]; rfl)
   rw [← Nat.add_assoc] at this
   exact this
theorem info_pre : ∃ i z, Tryz.prog.info? 46 = some i ∧ i.zero = some z ∧ i.size = 2 ∧ i.bytes = 32 ∧ z.cells.size = 2 := by
 have h : (Tryz.prog.info? 46).map (fun i => (i.zero, i.size, i.bytes)) = some (some (.agg (preC ⟨#[]⟩ ⟨#[]⟩)), 2, 32) := by kernel_rfl
 cases hq : Tryz.prog.info? 46 with
 | none => rw [hq] at h; cases h
 | some i =>
  rw [hq] at h
  simp at h
  exact ⟨i, _, rfl, h.1, h.2.1, h.2.2, rfl⟩
theorem pre_ones (a b : ByteArray) : ∀ u ∈ (preC a b).toList, u.oneCell' = true := by
 intro u hu
 have h : (preC a b).all (·.oneCell') = true := by simp [Value.oneCell']
 rw [Array.all_eq_true_iff_forall_mem] at h
 exact h u (by simpa using hu)
theorem OwnP.belowR {w w' : World} {B : Nat} {v : Value} {ps : List RuV} (h : OwnP w B v ps) (k : Below w.heap.size w w') : OwnP w' B v ps := ⟨own_keepR h.1 k, fun p hp => own_keepR (h.2 p hp) k⟩
structure PaSt (b1 : Nat) (w1 : World) (ps : List (ByteArray × ByteArray)) (pv : Value) (qs : List RuV) (ov : Value) (wr : World) : Prop where
 out : OwnP wr b1 ov qs
 pre : ownPr wr b1 pv ps
 low : Below b1 w1 wr
 sz : b1 ≤ wr.heap.size
theorem PaSt.below {b1 : Nat} {w1 wr u : World} {ps : List (ByteArray × ByteArray)} {pv ov : Value} {qs : List RuV} (h : PaSt b1 w1 ps pv qs ov wr) (k : Below wr.heap.size wr u) : PaSt b1 w1 ps pv qs ov u :=
 ⟨h.out.belowR k, own_keepR h.pre k, h.low.trans (k.mono h.sz), Nat.le_trans h.sz k.size⟩
theorem PaSt.addP {b1 : Nat} {w1 wr u : World} {ps ps' : List (ByteArray × ByteArray)} {pv pv' ov : Value} {qs : List RuV} (h : PaSt b1 w1 ps pv qs ov wr) (o : Obj) (hg : (wr.alloc o).grownBy u pv.ownBlock) (ho : ownPr u b1 pv' ps') : PaSt b1 w1 ps' pv' qs ov u := by
 have hA := h.below (below_lex wr o)
 have hoa : ownPr (wr.alloc o) b1 pv ps := hA.pre
 refine ⟨⟨owns_grown_ne hA.out.1 hoa (by decide) hg, fun p hp => owns_grown_ne (hA.out.2 p hp) hoa (by decide) hg⟩, ho, hA.low.grown hg hA.sz (fun q hq => (hoa.lt q hq).1), Nat.le_trans hA.sz hg.size⟩
theorem PaSt.addR {b1 : Nat} {w1 wr u : World} {ps : List (ByteArray × ByteArray)} {pv ov ov' : Value} {qs : List RuV} {r : RuV} (h : PaSt b1 w1 ps pv qs ov wr) (o : Obj) (hg : (wr.alloc o).grownBy u ov.ownBlock) (hb : ownL wr b1 r.2 r.1.2) (ho : u.ownsRow b1 38 13 ov' (qs ++ [r]).length (flatP (qs ++ [r]))) : PaSt b1 w1 ps pv (qs ++ [r]) ov' u := by
 have hA := h.below (below_lex wr o)
 have hoa := hA.out.1
 refine ⟨⟨ho, fun p hp => ?_⟩, owns_grown_ne hA.pre hoa (by decide) hg, hA.low.grown hg hA.sz (fun q hq => (hoa.lt q hq).1), Nat.le_trans hA.sz hg.size⟩
 rcases List.mem_append.1 hp with hp | hp
 ·exact owns_grown_ne (hA.out.2 p hp) hoa (by decide) hg
 ·rw [List.mem_singleton.1 hp]
  exact owns_grown_ne (hb.alloc _) hoa (by decide) hg
theorem pref_size {N : Nat} {L l : List Sym} {a b : ByteArray} (hg : ∀ x ∈ L, GoodR N x) (h : prefS L = .yes (a, b) l) : b.size ≤ N := by
 cases L with
 | nil => cases h
 | cons x r =>
  rw [prefS] at h
  split at h
  ·cases r with
   | nil => cases h
   | cons y r2 =>
    rw [irS] at h
    split at h
    ·cases hn : needS (isMk endM) r2 with
     | no l2 => rw [hn] at h; cases h
     | yes u l2 =>
      rw [hn] at h
      simp only [Tk.bind, Tk.yes.injEq, Prod.mk.injEq] at h
      rw [← h.1.2]
      show (strOfNums y.tt).size ≤ N
      rw [strNums_size]
      exact (hg y (by simp)).ltt
    ·cases h
  ·cases h
theorem lookP_upd (ps : List (ByteArray × ByteArray)) (a b : ByteArray) : lookP (ps ++ [(a, b)]) = updP (lookP ps) a b := by
 funext c
 rw [lookP_snoc]
 rfl
theorem pre_small {ps : List (ByteArray × ByteArray)} {a b : ByteArray} (h : ∀ q ∈ ps, q.2.size ≤ 9000) (hb : b.size ≤ 9000) : ∀ q ∈ ps ++ [(a, b)], q.2.size ≤ 9000 := fun q hq => by
 rcases List.mem_append.1 hq with hq | hq
 ·exact h q hq
 ·rw [List.mem_singleton.1 hq]; exact hb
set_option maxRecDepth 100000 in
set_option maxHeartbeats 16000000 in
theorem refParse6_any (s : ByteArray) (hs : s.size ≤ 9000) (w : World) :
 Calls Tryz.prog 8 #[.string s] w (ParseR (srcS s) w) := by
 obtain ⟨F, hF⟩ : ∃ F, F = ParseR (srcS s) w := ⟨_, rfl⟩
 rcases refAll_rules s hs w with ⟨p, c, hc0, hc4, hd, hA⟩ | ⟨hd, hA⟩
 ·have HF : Hid (∀ W, Below w.heap.size w W → F (.returned (.tuple #[.slice none 0 0, .int .i64 p, .int .i64 c])) W) := Lib.hid (fun W hW => by rw [hF, hd]; exact ⟨hW, rfl⟩)
  rw [← hF]
  have HA := Lib.hid hA
  have d1 : ((c : Int) != 0) = true := by rw [bne_iff_ne]; omega
  clear hF hd hA
  go_enter Tryz.func8, Tryz.ntmps8
  go_wp2_with (go_at_call 26; refine HA.out.mono ?_; rintro e w1 ⟨rfl, hB1⟩)
  go_ret3
  exact HF.out _ hB1
 ·have hgood := all_goodR s
  have hfew := syms_few s
  rw [← hF]
  have HD := Lib.hid hd
  have HF := Lib.hid hF
  have HA := Lib.hid hA
  clear hF hd hA
  generalize (allL (bs s)).1 = L at *
  have HG := Lib.hid (fun x hx => (hgood x hx))
  clear hgood
  go_enter Tryz.func8, Tryz.ntmps8
  go_upto_region 6 with (go_at_call 26; refine HA.out.mono ?_; rintro e w1 ⟨v, rfl, ho, hB1⟩; obtain ⟨p, cap, rfl⟩ := slA_len (SlA.of (slice_of_owns ho)); have HSl := Lib.hid (SlA.of (slice_of_owns ho)); have HB1 := Lib.hid hB1; clear ho hB1)
  obtain ⟨i0, z0, hi0, hz0, hz1, hz2, hz3⟩ := info_rule
  have HI := Lib.hid hi0
  have HZ0 := Lib.hid hz0
  have HZ1 := Lib.hid hz1
  have HZ2 := Lib.hid hz2
  have HZ3 := Lib.hid hz3
  obtain ⟨j0, y0, hj0, hy0, hy1, hy2, hy3⟩ := info_pre
  have HJ := Lib.hid hj0
  have HY0 := Lib.hid hy0
  have HY1 := Lib.hid hy1
  have HY2 := Lib.hid hy2
  have HY3 := Lib.hid hy3
  have HSr : Hid ((Tryz.prog.info? 38).map (·.size) = some 13) := Lib.hid (by kernel_rfl)
  have HZr : Hid (((Tryz.prog.info? 38).bind (·.zero)).isSome = true) := Lib.hid (by kernel_rfl)
  have HSp : Hid ((Tryz.prog.info? 46).map (·.size) = some 2) := Lib.hid (by kernel_rfl)
  have HZp : Hid (((Tryz.prog.info? 46).bind (·.zero)).isSome = true) := Lib.hid (by kernel_rfl)
  have HFb : Hid (∀ l W, progS noPre L = .no l → Below w.heap.size w W → F (.returned (.tuple #[.slice none 0 0, .int .i64 ((placeR s.size l : Nat) : Int), .int .i64 4])) W) := Lib.hid (fun l W h1 h2 => by rw [HF.out, HD.out, h1]; exact ⟨h2, rfl⟩)
  have HFg : Hid (∀ v (qs : List RuV) W, progS noPre L = .yes (qs.map (·.1)) → Below w.heap.size w W → OwnP W w.heap.size v qs → F (.returned (.tuple #[v, .int .i64 0, .int .i64 0])) W) := Lib.hid (fun v qs W h1 h2 h3 => by rw [HF.out, HD.out, h1]; exact ⟨h2, v, qs, rfl, h3, rfl⟩)
  obtain ⟨b1, hb1⟩ : ∃ b1, b1 = w1.heap.size := ⟨_, rfl⟩
  have HBb := Lib.hid hb1
  have HLo : Hid (LowV b1 (.slice p L.length cap)) := Lib.hid (by rw [hb1]; exact HSl.out.low)
  have HIn : Hid (∀ U (ps : List (ByteArray × ByteArray)) pq, Below b1 w1 U → PreRow U pq ps → (∀ q ∈ ps, q.2.size ≤ 9000) → ps.length ≤ 1000000 → RefIn s.size ps pq p cap L U) := Lib.hid (fun U ps pq h1 h2 h3 h4 => ⟨HSl.out.under HLo.out h1, h2, HG.out, hs, h3, h4, by omega⟩)
  have HPlc : Hid (∀ U, Below b1 w1 U → ∀ (a : Int) (k : Nat), a = (k : Int) → Calls Tryz.prog 30 #[.slice p L.length cap, .int .i64 a, .string s] U fun e w' => e = .returned (.int .i64 ((placeR s.size (L.drop k) : Nat) : Int)) ∧ U = w') := Lib.hid (fun U h1 a k ha => by
   subst ha
   exact refPlaceR_any s.size [] none p cap L k s U (HIn.out U [] none h1 (PreRow.nil _ _) (fun q hq => by simp at hq) (by simp)))
  have hfew9 : L.length ≤ 9000 := by omega
  clear hb1 HA
  generalize hn : L.length = n at *
  have HNn := Lib.hid hn
  clear hn
  go_wp2_with fail
  go_loopg [8, 9, 10] n (fun gg ov pv iv wr => ∃ (ov' pv' : Value) (i : Nat) (ps : List (ByteArray × ByteArray)) (qs : List RuV), ov' = ov ∧ pv' = pv ∧ iv = .int .i64 (i : Int) ∧ i ≤ n ∧ n - i ≤ gg ∧ ps.length ≤ i ∧ qs.length ≤ i ∧ (∀ q ∈ ps, q.2.size ≤ 9000) ∧ progS noPre L = (progS (lookP ps) (L.drop i)).put (qs.map (·.1)) ∧ PaSt b1 w1 ps pv' qs ov' wr)
  case atStart => exact ⟨_, _, 0, [], [], rfl, rfl, rfl, Nat.zero_le _, by omega, Nat.le_refl _, Nat.le_refl _, (fun q hq => by simp at hq), by rw [List.drop_zero, List.map_nil, ProgR.put_nil]; rfl, ⟨⟨World.ownsRow_nil _ _ _ _, fun p hp => by simp at hp⟩, World.ownsRow_nil _ _ _ _, by rw [HBb.out]; exact Below.refl _ _, Nat.le_of_eq HBb.out⟩⟩
  case round =>
   obtain ⟨ov, pv, i, ps, qs, rfl, rfl, rfl, hin, hgg, hpl, hql, hps, hrel, hst⟩ := hrel
   have HRl := Lib.hid hrel
   have HPs := Lib.hid hps
   have HS := Lib.hid hst
   have i0' : (0 : Int) ≤ (i : Int) := by omega
   clear hrel hps hst
   by_cases hlt : i < n
   ·have d1 : decide ((i : Int) < (n : Int)) = true := by simpa using hlt
    have d1n : decide (i < n) = true := by simpa using hlt
    have b1' : (i : Int) < (n : Int) := by omega
    obtain ⟨pq, pc, rfl, hpre⟩ := ownPr_form HS.out.pre
    have hR0 := HIn.out wr ps pq HS.out.low hpre HPs.out (by omega)
    have hltL : i < L.length := by have := HNn.out; omega
    have hx : L[i]? = some L[i] := List.getElem?_eq_getElem hltL
    have hgx := HG.out L[i] (List.getElem_mem hltL)
    have hdx := List.drop_eq_getElem_cons hltL
    obtain ⟨g, o, rfl, s6⟩ := hR0.sl.sixAt hx
    generalize L[i] = x at *
    have HW : Hid (∀ W, Calls Tryz.prog 27 #[.agg (symC x.kind (strOfNums x.text) x.tk (strOfNums x.tt) (strOfNums x.te) x.place), .string ⟨#[112, 114, 101, 102, 105, 120]⟩] W fun e w' => e = .returned (.bool (takesS (isWd prefixW) (L.drop i)).isSome) ∧ Below W.heap.size W w') := Lib.hid (fun W => by
     have := refWordIs_any (x.kind : Int) (strOfNums x.text) (by rw [strNums_size]; have := hgx.lt; omega) x.tk (strOfNums x.tt) (strOfNums x.te) x.place ⟨#[112, 114, 101, 102, 105, 120]⟩ W
     have e : wordB (x.kind : Int) (bs (strOfNums x.text)) (bs ⟨#[112, 114, 101, 102, 105, 120]⟩) = (takesS (isWd prefixW) (L.drop i)).isSome := by
      rw [hdx, takesS, bs_strOfNums hgx.bt]
      show isWd prefixW x = _
      cases isWd prefixW x <;> rfl
     rw [e] at this
     exact this)
    have c0 : wr.cell? ⟨g, o + i * 6, none⟩ = some (.int .i64 x.kind) := s6 0 (by omega)
    have c1 : wr.cell? ⟨g, o + i * 6 + 1, none⟩ = some (.string (strOfNums x.text)) := s6 1 (by omega)
    have c2 : wr.cell? ⟨g, o + i * 6 + 2, none⟩ = some (.int .i64 x.tk) := s6 2 (by omega)
    have c3 : wr.cell? ⟨g, o + i * 6 + 3, none⟩ = some (.string (strOfNums x.tt)) := s6 3 (by omega)
    have c4 : wr.cell? ⟨g, o + i * 6 + 4, none⟩ = some (.string (strOfNums x.te)) := s6 4 (by omega)
    have c5 : wr.cell? ⟨g, o + i * 6 + 5, none⟩ = some (.int .i64 x.place) := s6 5 (by omega)
    have HNe : Hid (L.drop i ≠ []) := Lib.hid (by rw [hdx]; simp)
    have HPr := Lib.hid hpre
    clear s6 hx hgx hdx hR0 hpre hltL
    generalize strOfNums x.text = tx at *
    generalize strOfNums x.tt = tt at *
    generalize strOfNums x.te = te at *
    generalize (x.kind : Int) = kk at *
    generalize (x.tk : Int) = tk at *
    generalize (x.place : Int) = tp at *
    cases ht : takesS (isWd prefixW) (L.drop i) with
    | some L1 =>
     obtain ⟨_, rfl⟩ := takes_drop ht
     have HGx : Hid (progS noPre L = ProgR.put (qs.map (·.1)) (match prefS (L.drop (i + 1)) with | .no l => .no l | .yes (w, b) l => progS (updP (lookP ps) w b) l)) := Lib.hid (by rw [HRl.out, progS_cons _ _ HNe.out, ht]; all_goals rfl)
     rw [ht] at HW
     clear ht
     go_upto_region 10 with (go_at_call 27; refine (HW.out _).mono ?_; rintro e y1 ⟨rfl, hB1⟩; have HS1 := Lib.hid (HS.out.below hB1); have HPr1 := Lib.hid (HPr.out.below hB1); clear hB1)
     clear c0 c1 c2 c3 c4 c5 HW HS d1 d1n b1'
     have hCx := refPrefR_any s.size ps pq (some ⟨g, o, none⟩) cap L i (by have := HNn.out; omega) y1 (HIn.out y1 ps pq HS1.out.low HPr1.out HPs.out (by omega))
     rw [HNn.out] at hCx
     cases hp : prefS (L.drop (i + 1)) with
     | no l =>
      have HGn : Hid (progS noPre L = .no l) := Lib.hid (by rw [HGx.out, hp]; rfl)
      have HC := Lib.hid (hCx.mono (fun e w' h => (by rw [hp] at h; obtain ⟨⟨k, a, b, h1, h2⟩, h3⟩ := h; exact ⟨⟨k, a, b, by rw [← HNn.out]; exact h1, h2⟩, h3⟩ : (∃ (k : Nat) (a b : ByteArray), k ≤ n ∧ l = L.drop k ∧ e = .returned (.tuple #[.agg (preC a b), .int .i64 (-1 - (k : Int))])) ∧ Below y1.heap.size y1 w')))
      clear hp hCx HGx
      go_upto_region 11 with (go_at_call 28; refine HC.out.mono ?_; rintro e y2 ⟨⟨k, a, b, hk, hl, rfl⟩, hB2⟩; have d9 : decide (-1 - (k : Int) < 0) = true := decide_eq_true (by omega); have HK := Lib.hid hk; have HL := Lib.hid hl; have HS2 := Lib.hid ((HS1.out.below hB2).below (below_lex y2 (.cells (preC a b) 46))); have HBx := Lib.hid (block_new y2 (preC a b) 46); clear hB2 hl)
      generalize y2.alloc (.cells (preC a b) 46) = y3 at *
      generalize y2.heap.size = g3 at *
      have e0 : y3.cell? ⟨g3, 0, none⟩ = some (.string a) := HBx.out.cell (j := 0) rfl
      have e1 : y3.cell? ⟨g3, 1, none⟩ = some (.string b) := HBx.out.cell (j := 1) rfl
      go_upto_region 15 with (first
       | (refine wpList_buildOne rfl 58 46 (.tmp 42) rfl (preC a b).toList rfl Tryz.underlying58 HSp.out HZp.out (by simp) (by simp) ?_)
       | (at_builtin; refine wpList_append_own _ rfl _ _ 58 rfl b1 46 j0 y0 2 32 Tryz.underlying58 HJ.out HY0.out HY1.out HY2.out HY3.out (by decide) _ _ _ rfl (HS2.out.pre.alloc _) ⟨y3.heap.size, 0, none⟩ 1 1 (preC a b).toList rfl rfl (fun j u h => by rw [Addr.add_mid]; exact range_new _ _ _ j u h) (pre_ones a b) (by unfold maxLen; omega) (by omega) (by have := HS2.out.sz; simp <;> omega) ?_; intro v' w4 hown' hgrow _))
      have hst : PaSt b1 w1 (ps ++ [(a, b)]) v' qs ov w4 := HS2.out.addP _ hgrow (by
       show World.ownsRow _ _ _ _ _ _ _
       rw [flatPr_append, flatPr_one, List.length_append]
       exact hown')
      have HSt := Lib.hid hst
      have HPl := Lib.hid (HPlc.out w4 HSt.out.low (-1 - (-1 - (k : Int))) k (by omega))
      have hB4 := HB1.out.trans (HSt.out.low.mono (by rw [HBb.out]; exact HB1.out.size))
      have HB4 := Lib.hid hB4
      have HX := Lib.hid (HFb.out _ · (HGn.out.trans (congrArg ProgR.no HL.out)))
      clear hB4 hown' hgrow
      go_wp2_with (go_at_call 30; refine HPl.out.mono ?_; rintro e y5 ⟨rfl, rfl⟩)
      go_ret3
      exact HX.out _ HB4.out
     | yes q l =>
      obtain ⟨a, b⟩ := q
      have HGy : Hid (progS noPre L = (progS (updP (lookP ps) a b) l).put (qs.map (·.1))) := Lib.hid (by rw [HGx.out, hp])
      have HSb : Hid (b.size ≤ 9000) := Lib.hid (Nat.le_trans (pref_size (fun x hx => HG.out x (List.mem_of_mem_drop hx)) hp) hs)
      have HC := Lib.hid (hCx.mono (fun e w' h => (by rw [hp] at h; obtain ⟨⟨k, h0, h1, h2⟩, h3⟩ := h; exact ⟨⟨k, h0, by rw [← HNn.out]; exact h1, h2⟩, h3⟩ : (∃ k : Nat, i < k ∧ k ≤ n ∧ l = L.drop k ∧ e = .returned (.tuple #[.agg (preC a b), .int .i64 (k : Int)])) ∧ Below y1.heap.size y1 w')))
      clear hp hCx HGx
      go_upto_region 11 with (go_at_call 28; refine HC.out.mono ?_; rintro e y2 ⟨⟨k, hik, hk, hl, rfl⟩, hB2⟩; have d9 : decide ((k : Int) < 0) = false := decide_eq_false (by omega); have HK := Lib.hid hk; have HL := Lib.hid hl; have HS2 := Lib.hid ((HS1.out.below hB2).below (below_lex y2 (.cells (preC a b) 46))); have HBx := Lib.hid (block_new y2 (preC a b) 46); clear hB2 hl)
      generalize y2.alloc (.cells (preC a b) 46) = y3 at *
      generalize y2.heap.size = g3 at *
      have e0 : y3.cell? ⟨g3, 0, none⟩ = some (.string a) := HBx.out.cell (j := 0) rfl
      have e1 : y3.cell? ⟨g3, 1, none⟩ = some (.string b) := HBx.out.cell (j := 1) rfl
      go_wp2_with (first
       | (refine wpList_buildOne rfl 58 46 (.tmp 42) rfl (preC a b).toList rfl Tryz.underlying58 HSp.out HZp.out (by simp) (by simp) ?_)
       | (at_builtin; refine wpList_append_own _ rfl _ _ 58 rfl b1 46 j0 y0 2 32 Tryz.underlying58 HJ.out HY0.out HY1.out HY2.out HY3.out (by decide) _ _ _ rfl (HS2.out.pre.alloc _) ⟨y3.heap.size, 0, none⟩ 1 1 (preC a b).toList rfl rfl (fun j u h => by rw [Addr.add_mid]; exact range_new _ _ _ j u h) (pre_ones a b) (by unfold maxLen; omega) (by omega) (by have := HS2.out.sz; simp <;> omega) ?_; intro v' w4 hown' hgrow _))
      have hst : PaSt b1 w1 (ps ++ [(a, b)]) v' qs ov w4 := HS2.out.addP _ hgrow (by
       show World.ownsRow _ _ _ _ _ _ _
       rw [flatPr_append, flatPr_one, List.length_append]
       exact hown')
      go_roundg (n - k)
      case measure => omega
      case rel => exact ⟨_, _, k, ps ++ [(a, b)], qs, rfl, rfl, rfl, HK.out, Nat.le_refl _, by simp; omega, by omega, pre_small HPs.out HSb.out, by rw [HGy.out, HL.out]; congr 1; exact congrArg (fun P => progS P (L.drop k)) (lookP_upd ps a b).symm, hst⟩
    | none =>
     have HGx : Hid (progS noPre L = ProgR.put (qs.map (·.1)) (match ruleS (lookP ps) (L.drop i) with | .no l => .no l | .yes r l => (progS (lookP ps) l).put [r])) := Lib.hid (by rw [HRl.out, progS_cons _ _ HNe.out, ht]; all_goals rfl)
     rw [ht] at HW
     clear ht
     go_upto_region 12 with (go_at_call 27; refine (HW.out _).mono ?_; rintro e y1 ⟨rfl, hB1⟩; have HS1 := Lib.hid (HS.out.below hB1); have HPr1 := Lib.hid (HPr.out.below hB1); clear hB1)
     clear c0 c1 c2 c3 c4 c5 HW HS d1 d1n b1'
     have hCx := refRuleR_any s.size ps pq (some ⟨g, o, none⟩) pc cap L i (by have := HNn.out; omega) y1 (HIn.out y1 ps pq HS1.out.low HPr1.out HPs.out (by omega))
     rw [HNn.out] at hCx
     cases hp : ruleS (lookP ps) (L.drop i) with
     | no l =>
      have HGn : Hid (progS noPre L = .no l) := Lib.hid (by rw [HGx.out, hp]; rfl)
      have HC := Lib.hid (hCx.mono (fun e w' h => (by rw [hp] at h; obtain ⟨h3, k, q, bq, bn, bc, h1, h2⟩ := h; exact ⟨h3, k, q, bq, bn, bc, by rw [← HNn.out]; exact h1, h2⟩ : Below y1.heap.size y1 w' ∧ ∃ (k : Nat) (q : PatD) (bq : Option Addr) (bn bc : Nat), k ≤ n ∧ l = L.drop k ∧ e = .returned (.tuple #[.agg (ruleC q (.slice bq bn bc)), .int .i64 (-1 - (k : Int))]))))
      clear hp hCx HGx
      go_upto_region 13 with (go_at_call 29; refine HC.out.mono ?_; rintro e y2 ⟨hB2, k, qq, bq, bn, bc, hk, hl, rfl⟩; have d9 : decide (-1 - (k : Int) < 0) = true := decide_eq_true (by omega); have HK := Lib.hid hk; have HL := Lib.hid hl; have HS2 := Lib.hid ((HS1.out.below hB2).below (below_lex y2 (.cells (ruleC qq (.slice bq bn bc)) 38))); have HBx := Lib.hid (block_new y2 (ruleC qq (.slice bq bn bc)) 38); clear hB2 hl)
      generalize y2.alloc (.cells (ruleC qq (.slice bq bn bc)) 38) = y3 at *
      generalize y2.heap.size = g3 at *
      go_upto_region 15 with (first
       | (refine wpList_load_mid rfl 38 (.tmp 14) rfl g3 0 rfl (ruleC qq (.slice bq bn bc)).toList _ HBx.out.range Tryz.underlying38 rfl HSr.out ?_)
       | (refine wpList_buildOne rfl 23 38 (.tmp 54) rfl (ruleC qq (.slice bq bn bc)).toList rfl Tryz.underlying23 HSr.out HZr.out (by simp) (by simp) ?_)
       | (at_builtin; refine wpList_append_own _ rfl _ _ 23 rfl b1 38 i0 z0 13 192 Tryz.underlying23 HI.out HZ0.out HZ1.out HZ2.out HZ3.out (by decide) _ _ _ rfl (HS2.out.out.1.alloc _) ⟨y3.heap.size, 0, none⟩ 1 1 (ruleC qq (.slice bq bn bc)).toList rfl rfl (fun j u h => by rw [Addr.add_mid]; exact range_new _ _ _ j u h) (rule_ones qq bq bn bc) (by unfold maxLen; omega) (by omega) (by have := HS2.out.sz; simp <;> omega) ?_; intro v' w4 hown' hgrow _))
      have hoa := HS2.out.out.1.alloc (.cells (ruleC qq (.slice bq bn bc)).toList.toArray 38)
      have hlow4 : Below b1 w1 w4 := (HS2.out.below (below_lex y3 (.cells (ruleC qq (.slice bq bn bc)).toList.toArray 38))).low.grown hgrow (by have := HS2.out.sz; simp; omega) (fun q hq => (hoa.lt q hq).1)
      have HPl := Lib.hid (HPlc.out w4 hlow4 (-1 - (-1 - (k : Int))) k (by omega))
      have hB4 := HB1.out.trans (hlow4.mono (by rw [HBb.out]; exact HB1.out.size))
      have HB4 := Lib.hid hB4
      have HX := Lib.hid (HFb.out _ · (HGn.out.trans (congrArg ProgR.no HL.out)))
      clear hB4 hown' hgrow
      go_wp2_with (go_at_call 30; refine HPl.out.mono ?_; rintro e y5 ⟨rfl, rfl⟩)
      go_ret3
      exact HX.out _ HB4.out
     | yes r l =>
      obtain ⟨qq, bls⟩ := r
      have HGy : Hid (progS noPre L = (progS (lookP ps) l).put (qs.map (·.1) ++ [(qq, bls)])) := Lib.hid (by rw [HGx.out, hp, ProgR.put_put])
      have HC := Lib.hid (hCx.mono (fun e w' h => (by rw [hp] at h; obtain ⟨h3, k, bq, bn, bc, h0, h1, h2, h4, h5⟩ := h; exact ⟨h3, k, bq, bn, bc, h0, by rw [← HNn.out]; exact h1, h2, h4, h5⟩ : Below y1.heap.size y1 w' ∧ ∃ (k : Nat) (bq : Option Addr) (bn bc : Nat), i < k ∧ k ≤ n ∧ l = L.drop k ∧ e = .returned (.tuple #[.agg (ruleC qq (.slice bq bn bc)), .int .i64 (k : Int)]) ∧ ownL w' y1.heap.size (.slice bq bn bc) bls)))
      clear hp hCx HGx
      go_upto_region 13 with (go_at_call 29; refine HC.out.mono ?_; rintro e y2 ⟨hB2, k, bq, bn, bc, hik, hk, hl, rfl, hob⟩; have d9 : decide ((k : Int) < 0) = false := decide_eq_false (by omega); have HK := Lib.hid hk; have HL := Lib.hid hl; have hob3 := hob.low (B := b1) HS1.out.sz; have HS2 := Lib.hid ((HS1.out.below hB2).below (below_lex y2 (.cells (ruleC qq (.slice bq bn bc)) 38))); have HBx := Lib.hid (block_new y2 (ruleC qq (.slice bq bn bc)) 38); have HOb := Lib.hid (own_keepR hob3 (below_lex y2 (.cells (ruleC qq (.slice bq bn bc)) 38))); clear hob hob3; clear hB2 hl)
      generalize y2.alloc (.cells (ruleC qq (.slice bq bn bc)) 38) = y3 at *
      generalize y2.heap.size = g3 at *
      go_wp2_with (first
       | (refine wpList_load_mid rfl 38 (.tmp 14) rfl g3 0 rfl (ruleC qq (.slice bq bn bc)).toList _ HBx.out.range Tryz.underlying38 rfl HSr.out ?_)
       | (refine wpList_buildOne rfl 23 38 (.tmp 54) rfl (ruleC qq (.slice bq bn bc)).toList rfl Tryz.underlying23 HSr.out HZr.out (by simp) (by simp) ?_)
       | (at_builtin; refine wpList_append_own _ rfl _ _ 23 rfl b1 38 i0 z0 13 192 Tryz.underlying23 HI.out HZ0.out HZ1.out HZ2.out HZ3.out (by decide) _ _ _ rfl (HS2.out.out.1.alloc _) ⟨y3.heap.size, 0, none⟩ 1 1 (ruleC qq (.slice bq bn bc)).toList rfl rfl (fun j u h => by rw [Addr.add_mid]; exact range_new _ _ _ j u h) (rule_ones qq bq bn bc) (by unfold maxLen; omega) (by omega) (by have := HS2.out.sz; simp <;> omega) ?_; intro v' w4 hown' hgrow _))
      have hst : PaSt b1 w1 ps (.slice pq ps.length pc) (qs ++ [((qq, bls), .slice bq bn bc)]) v' w4 := HS2.out.addR (r := ((qq, bls), .slice bq bn bc)) _ hgrow HOb.out (by
       rw [flatP_append, flatP_one, List.length_append]
       exact hown')
      go_roundg (n - k)
      case measure => omega
      case rel => exact ⟨_, _, k, ps, qs ++ [((qq, bls), .slice bq bn bc)], rfl, rfl, rfl, HK.out, Nat.le_refl _, by omega, by simp; omega, HPs.out, by rw [HGy.out, HL.out, List.map_append]; rfl, hst⟩
   ·obtain rfl : i = n := by omega
    have d1 : decide ((i : Int) < (i : Int)) = false := by simp
    have HGd : Hid (progS noPre L = .yes (qs.map (·.1))) := Lib.hid (by rw [HRl.out, List.drop_eq_nil_of_le (by have := HNn.out; omega), progS_nil]; simp [ProgR.put])
    have HB4 := Lib.hid (HB1.out.trans (HS.out.low.mono (by rw [HBb.out]; exact HB1.out.size)))
    go_wp2_with fail
    go_ret3
    exact HFg.out _ qs _ HGd.out HB4.out ⟨HS.out.out.1.low (by rw [HBb.out]; exact HB1.out.size), fun p hp => (HS.out.out.2 p hp).low (by rw [HBb.out]; exact HB1.out.size)⟩
end Go.Proofs.YtnbdomfbklelaaaGreatDoor
namespace Go.Proofs.YtnbdomfbklelaaaGreatDoor
open Go.RowKit
open Utf Term Lex
theorem reads_start {w : World} {a0 : ByteArray} {a1 : Int} {a2 a3 : ByteArray} {b0 : ByteArray} {b1 : Int} {b2 b3 : ByteArray} {c0 : ByteArray} {c1 : Int} {c2 c3 : ByteArray} {gA gB oB n1 cv cu : Nat} {pv pu : Option Addr} (h : RuleAt w gA 0 ((a0, a1, a2, a3), (b0, b1, b2, b3), (c0, c1, c2, c3)) (.slice pv n1 cv)) (k : RuleAt w gB oB ((a0, a1, a2, a3), (b0, b1, b2, b3), (c0, c1, c2, c3)) (.slice pu n1 cu)) : (fun W' => W'.cell? ⟨gA, 0, none⟩ = some (.string a0) ∧ W'.cell? ⟨gA, 1, none⟩ = some (.int .i64 a1) ∧ W'.cell? ⟨gA, 2, none⟩ = some (.string a2) ∧ W'.cell? ⟨gA, 3, none⟩ = some (.string a3) ∧ W'.cell? ⟨gA, 4, none⟩ = some (.string b0) ∧ W'.cell? ⟨gA, 5, none⟩ = some (.int .i64 b1) ∧ W'.cell? ⟨gA, 6, none⟩ = some (.string b2) ∧ W'.cell? ⟨gA, 7, none⟩ = some (.string b3) ∧ W'.cell? ⟨gA, 8, none⟩ = some (.string c0) ∧ W'.cell? ⟨gA, 9, none⟩ = some (.int .i64 c1) ∧ W'.cell? ⟨gA, 10, none⟩ = some (.string c2) ∧ W'.cell? ⟨gA, 11, none⟩ = some (.string c3) ∧ W'.cell? ⟨gA, 12, none⟩ = some (.slice pv n1 cv) ∧ W'.cell? ⟨gB, oB, none⟩ = some (.string a0) ∧ W'.cell? ⟨gB, oB + 1, none⟩ = some (.int .i64 a1) ∧ W'.cell? ⟨gB, oB + 2, none⟩ = some (.string a2) ∧ W'.cell? ⟨gB, oB + 3, none⟩ = some (.string a3) ∧ W'.cell? ⟨gB, oB + 4, none⟩ = some (.string b0) ∧ W'.cell? ⟨gB, oB + 5, none⟩ = some (.int .i64 b1) ∧ W'.cell? ⟨gB, oB + 6, none⟩ = some (.string b2) ∧ W'.cell? ⟨gB, oB + 7, none⟩ = some (.string b3) ∧ W'.cell? ⟨gB, oB + 8, none⟩ = some (.string c0) ∧ W'.cell? ⟨gB, oB + 9, none⟩ = some (.int .i64 c1) ∧ W'.cell? ⟨gB, oB + 10, none⟩ = some (.string c2) ∧ W'.cell? ⟨gB, oB + 11, none⟩ = some (.string c3) ∧ W'.cell? ⟨gB, oB + 12, none⟩ = some (.slice pu n1 cu) ∧ Below w.heap.size w W') w.drew := by
 obtain ⟨h0, h1, h2, h3, h4, h5, h6, h7, h8, h9, h10, h11, h12⟩ := h
 obtain ⟨k0, k1, k2, k3, k4, k5, k6, k7, k8, k9, k10, k11, k12⟩ := k
 exact ⟨h0, h1, h2, h3, h4, h5, h6, h7, h8, h9, h10, h11, h12, k0, k1, k2, k3, k4, k5, k6, k7, k8, k9, k10, k11, k12, (Below.refl _ _).drew⟩
theorem reads_step {w u v : World} {a0 : ByteArray} {a1 : Int} {a2 a3 : ByteArray} {b0 : ByteArray} {b1 : Int} {b2 b3 : ByteArray} {c0 : ByteArray} {c1 : Int} {c2 c3 : ByteArray} {gA gB oB n1 cv cu : Nat} {pv pu : Option Addr} (h : (fun W' => W'.cell? ⟨gA, 0, none⟩ = some (.string a0) ∧ W'.cell? ⟨gA, 1, none⟩ = some (.int .i64 a1) ∧ W'.cell? ⟨gA, 2, none⟩ = some (.string a2) ∧ W'.cell? ⟨gA, 3, none⟩ = some (.string a3) ∧ W'.cell? ⟨gA, 4, none⟩ = some (.string b0) ∧ W'.cell? ⟨gA, 5, none⟩ = some (.int .i64 b1) ∧ W'.cell? ⟨gA, 6, none⟩ = some (.string b2) ∧ W'.cell? ⟨gA, 7, none⟩ = some (.string b3) ∧ W'.cell? ⟨gA, 8, none⟩ = some (.string c0) ∧ W'.cell? ⟨gA, 9, none⟩ = some (.int .i64 c1) ∧ W'.cell? ⟨gA, 10, none⟩ = some (.string c2) ∧ W'.cell? ⟨gA, 11, none⟩ = some (.string c3) ∧ W'.cell? ⟨gA, 12, none⟩ = some (.slice pv n1 cv) ∧ W'.cell? ⟨gB, oB, none⟩ = some (.string a0) ∧ W'.cell? ⟨gB, oB + 1, none⟩ = some (.int .i64 a1) ∧ W'.cell? ⟨gB, oB + 2, none⟩ = some (.string a2) ∧ W'.cell? ⟨gB, oB + 3, none⟩ = some (.string a3) ∧ W'.cell? ⟨gB, oB + 4, none⟩ = some (.string b0) ∧ W'.cell? ⟨gB, oB + 5, none⟩ = some (.int .i64 b1) ∧ W'.cell? ⟨gB, oB + 6, none⟩ = some (.string b2) ∧ W'.cell? ⟨gB, oB + 7, none⟩ = some (.string b3) ∧ W'.cell? ⟨gB, oB + 8, none⟩ = some (.string c0) ∧ W'.cell? ⟨gB, oB + 9, none⟩ = some (.int .i64 c1) ∧ W'.cell? ⟨gB, oB + 10, none⟩ = some (.string c2) ∧ W'.cell? ⟨gB, oB + 11, none⟩ = some (.string c3) ∧ W'.cell? ⟨gB, oB + 12, none⟩ = some (.slice pu n1 cu) ∧ Below w.heap.size w W') u) (k : Below u.heap.size u v) : (fun W' => W'.cell? ⟨gA, 0, none⟩ = some (.string a0) ∧ W'.cell? ⟨gA, 1, none⟩ = some (.int .i64 a1) ∧ W'.cell? ⟨gA, 2, none⟩ = some (.string a2) ∧ W'.cell? ⟨gA, 3, none⟩ = some (.string a3) ∧ W'.cell? ⟨gA, 4, none⟩ = some (.string b0) ∧ W'.cell? ⟨gA, 5, none⟩ = some (.int .i64 b1) ∧ W'.cell? ⟨gA, 6, none⟩ = some (.string b2) ∧ W'.cell? ⟨gA, 7, none⟩ = some (.string b3) ∧ W'.cell? ⟨gA, 8, none⟩ = some (.string c0) ∧ W'.cell? ⟨gA, 9, none⟩ = some (.int .i64 c1) ∧ W'.cell? ⟨gA, 10, none⟩ = some (.string c2) ∧ W'.cell? ⟨gA, 11, none⟩ = some (.string c3) ∧ W'.cell? ⟨gA, 12, none⟩ = some (.slice pv n1 cv) ∧ W'.cell? ⟨gB, oB, none⟩ = some (.string a0) ∧ W'.cell? ⟨gB, oB + 1, none⟩ = some (.int .i64 a1) ∧ W'.cell? ⟨gB, oB + 2, none⟩ = some (.string a2) ∧ W'.cell? ⟨gB, oB + 3, none⟩ = some (.string a3) ∧ W'.cell? ⟨gB, oB + 4, none⟩ = some (.string b0) ∧ W'.cell? ⟨gB, oB + 5, none⟩ = some (.int .i64 b1) ∧ W'.cell? ⟨gB, oB + 6, none⟩ = some (.string b2) ∧ W'.cell? ⟨gB, oB + 7, none⟩ = some (.string b3) ∧ W'.cell? ⟨gB, oB + 8, none⟩ = some (.string c0) ∧ W'.cell? ⟨gB, oB + 9, none⟩ = some (.int .i64 c1) ∧ W'.cell? ⟨gB, oB + 10, none⟩ = some (.string c2) ∧ W'.cell? ⟨gB, oB + 11, none⟩ = some (.string c3) ∧ W'.cell? ⟨gB, oB + 12, none⟩ = some (.slice pu n1 cu) ∧ Below w.heap.size w W') v := by
 obtain ⟨h0, h1, h2, h3, h4, h5, h6, h7, h8, h9, h10, h11, h12, h13, h14, h15, h16, h17, h18, h19, h20, h21, h22, h23, h24, h25, hB⟩ := h
 exact ⟨cell_below k h0, cell_below k h1, cell_below k h2, cell_below k h3, cell_below k h4, cell_below k h5, cell_below k h6, cell_below k h7, cell_below k h8, cell_below k h9, cell_below k h10, cell_below k h11, cell_below k h12, cell_below k h13, cell_below k h14, cell_below k h15, cell_below k h16, cell_below k h17, cell_below k h18, cell_below k h19, cell_below k h20, cell_below k h21, cell_below k h22, cell_below k h23, cell_below k h24, cell_below k h25, below_step hB k⟩
theorem reads_low {w u : World} {a0 : ByteArray} {a1 : Int} {a2 a3 : ByteArray} {b0 : ByteArray} {b1 : Int} {b2 b3 : ByteArray} {c0 : ByteArray} {c1 : Int} {c2 c3 : ByteArray} {gA gB oB n1 cv cu : Nat} {pv pu : Option Addr} (h : (fun W' => W'.cell? ⟨gA, 0, none⟩ = some (.string a0) ∧ W'.cell? ⟨gA, 1, none⟩ = some (.int .i64 a1) ∧ W'.cell? ⟨gA, 2, none⟩ = some (.string a2) ∧ W'.cell? ⟨gA, 3, none⟩ = some (.string a3) ∧ W'.cell? ⟨gA, 4, none⟩ = some (.string b0) ∧ W'.cell? ⟨gA, 5, none⟩ = some (.int .i64 b1) ∧ W'.cell? ⟨gA, 6, none⟩ = some (.string b2) ∧ W'.cell? ⟨gA, 7, none⟩ = some (.string b3) ∧ W'.cell? ⟨gA, 8, none⟩ = some (.string c0) ∧ W'.cell? ⟨gA, 9, none⟩ = some (.int .i64 c1) ∧ W'.cell? ⟨gA, 10, none⟩ = some (.string c2) ∧ W'.cell? ⟨gA, 11, none⟩ = some (.string c3) ∧ W'.cell? ⟨gA, 12, none⟩ = some (.slice pv n1 cv) ∧ W'.cell? ⟨gB, oB, none⟩ = some (.string a0) ∧ W'.cell? ⟨gB, oB + 1, none⟩ = some (.int .i64 a1) ∧ W'.cell? ⟨gB, oB + 2, none⟩ = some (.string a2) ∧ W'.cell? ⟨gB, oB + 3, none⟩ = some (.string a3) ∧ W'.cell? ⟨gB, oB + 4, none⟩ = some (.string b0) ∧ W'.cell? ⟨gB, oB + 5, none⟩ = some (.int .i64 b1) ∧ W'.cell? ⟨gB, oB + 6, none⟩ = some (.string b2) ∧ W'.cell? ⟨gB, oB + 7, none⟩ = some (.string b3) ∧ W'.cell? ⟨gB, oB + 8, none⟩ = some (.string c0) ∧ W'.cell? ⟨gB, oB + 9, none⟩ = some (.int .i64 c1) ∧ W'.cell? ⟨gB, oB + 10, none⟩ = some (.string c2) ∧ W'.cell? ⟨gB, oB + 11, none⟩ = some (.string c3) ∧ W'.cell? ⟨gB, oB + 12, none⟩ = some (.slice pu n1 cu) ∧ Below w.heap.size w W') u) : Below w.heap.size w u := h.2.2.2.2.2.2.2.2.2.2.2.2.2.2.2.2.2.2.2.2.2.2.2.2.2.2
theorem BlockAt.ruleAt {W : World} {g : Nat} {q : PatD} {v : Value} {t : TypeId} (h : BlockAt W g (ruleC q v) t) : RuleAt W g 0 q v :=
 ⟨h.cell (j := 0) rfl, h.cell (j := 1) rfl, h.cell (j := 2) rfl, h.cell (j := 3) rfl, h.cell (j := 4) rfl, h.cell (j := 5) rfl, h.cell (j := 6) rfl, h.cell (j := 7) rfl, h.cell (j := 8) rfl, h.cell (j := 9) rfl, h.cell (j := 10) rfl, h.cell (j := 11) rfl, h.cell (j := 12) rfl⟩
set_option maxRecDepth 100000 in
set_option maxHeartbeats 16000000 in
theorem ruleReads_walk (s : ByteArray) (w : World) (he : LexEnv w) (hrp : HrpR w.heap.size) :
 Calls Tryz.prog 3 #[.string s] w fun e w' => e = .returned (.bool true) ∧ Below w.heap.size w w' := by
 have HKn := Lib.hid (fun W (h : Below w.heap.size w W) => known6_any W (he.below h) (hrp.le h.size))
 have HPa := Lib.hid (fun (hs : s.size ≤ 1000000000) => ruParse_any s hs w he hrp)
 have HOn := Lib.hid (fun (hs : s.size ≤ 1000000000) W (h : Below w.heap.size w W) => ruOne_any s hs W (he.below h) (hrp.le h.size))
 clear he hrp
 by_cases hs : s.size ≤ 9000
 ·have d1 : decide ((9000 : Int) < (s.size : Int)) = false := by simp; omega
  have d1n : decide (9000 < s.size) = false := by simp; omega
  have HRf := Lib.hid (fun W => refParse6_any s hs W)
  have hP := HPa.out (by omega)
  have hO := HOn.out (by omega)
  cases hsrc : srcS s with
  | bad p c =>
   have hc := src_code hsrc
   rw [hsrc] at hP HRf hO
   have HP := Lib.hid hP
   have HO := Lib.hid hO
   have e1 : ((c : Int) != 0) = true := by rw [bne_iff_ne]; omega
   have e2 : ((c : Int) == 0) = false := by rw [beq_eq_false_iff_ne]; omega
   clear hP hO HPa HOn hsrc hc
   go_enter Tryz.func3, Tryz.ntmps3
   go_upto_region 8 with (first
    | (go_at_call 7; refine HP.out.mono ?_; rintro e y1 ⟨hB1, rfl⟩; have HB1 := Lib.hid hB1; clear hB1)
    | (go_at_call 8; refine (HRf.out _).mono ?_; rintro e y2 ⟨hB2, rfl⟩; have HB2 := Lib.hid (HB1.out.trans (hB2.mono HB1.out.size)); clear hB2)
    | (go_at_call 9; refine (HO.out _ HB2.out).mono ?_; rintro e y3 ⟨hB3, rfl⟩; have HB3 := Lib.hid (HB2.out.trans (hB3.mono HB2.out.size)); clear hB3))
   have HB4 := Lib.hid (below_next HB3.out (below_lex y3 (.cells (ruleC zPa nilS) 38)))
   have HZ4 := Lib.hid (block_new y3 (ruleC zPa nilS) 38)
   generalize y3.alloc (.cells (ruleC zPa nilS) 38) = y4 at *
   generalize y3.heap.size = gA at *
   go_upto_region 10 with (first
    | (go_at_call 10; refine (same6_any _ _ [] y4 (.inl ⟨rfl, rfl⟩) (.inl ⟨rfl, rfl⟩)).mono ?_; rintro e y5 ⟨rfl, hB5⟩; have HZ5 := Lib.hid (HZ4.out.kept hB5); have HB5 := Lib.hid (HB4.out.trans (hB5.mono HB4.out.size)); clear hB5)
    | (go_at_call 11; refine (num6_any _ _).mono ?_; rintro e y7 ⟨rfl, rfl⟩))
   have r0 : BlockAt y4 gA (ruleC zPa nilS) 38 := HZ4.out
   have HSa : Hid (∀ W, Calls Tryz.prog 12 #[.agg (ruleC zPa nilS), .agg (ruleC zPa nilS)] W fun e w' => e = .returned (.bool true) ∧ Below W.heap.size W w') := Lib.hid (fun W => by
    have := refSame_any zPa zPa nilS nilS [] [] W (.inl ⟨⟨_, _, rfl⟩, rfl⟩) (.inl ⟨⟨_, _, rfl⟩, rfl⟩)
    rw [decide_eq_true rfl, decide_eq_true rfl] at this
    exact this)
   have HR13 : Hid ((Tryz.prog.info? 38).map (·.size) = some 13) := Lib.hid (by kernel_rfl)
   clear r0
   go_wp2_with (first
    | (refine wpList_load_mid rfl 38 (.tmp 9) rfl gA 0 rfl (ruleC zPa nilS).toList _ HZ5.out.range Tryz.underlying38 rfl HR13.out ?_)
    | (go_at_call 12; refine (HSa.out _).mono ?_; rintro e y6 ⟨rfl, hY6⟩; have HB6 := Lib.hid (HB5.out.trans (hY6.mono HB5.out.size)); clear hY6)
    | (go_at_call 11; refine (num6_any _ _).mono ?_; rintro e y7 ⟨rfl, rfl⟩)
    | (go_at_call 6; refine (HKn.out _ HB6.out).mono ?_; rintro e y8 ⟨rfl, hY8⟩; have HB8 := Lib.hid (HB6.out.trans (hY8.mono HB6.out.size)); clear hY8))
   go_ret
   exact ⟨rfl, HB8.out⟩
  | good rs =>
   rw [hsrc] at hP HRf hO
   have HP := Lib.hid hP
   have HO := Lib.hid hO
   clear hP hO HPa HOn hsrc
   by_cases h1 : rs.length = 1
   ·obtain ⟨x, rfl⟩ : ∃ x, rs = [x] := by
     match rs, h1 with
     | [x], _ => exact ⟨x, rfl⟩
    obtain ⟨⟨⟨a0, a1, a2, a3⟩, ⟨b0, b1, b2, b3⟩, ⟨c0, c1, c2, c3⟩⟩, ls⟩ := x
    clear h1
    go_enter Tryz.func3, Tryz.ntmps3
    go_upto_region 8 with (first
     | (go_at_call 7; refine HP.out.mono ?_; rintro e y1 ⟨hB1, v1, p1, rfl, ho1, hp1⟩; have HB1 := Lib.hid hB1; have hs1 := ho1.slice; rw [hp1] at hs1; have HS1 := Lib.hid hs1; clear hB1 ho1 hp1 hs1)
     | (go_at_call 8; refine (HRf.out _).mono ?_; rintro e y2 ⟨hB2, v2, p2, rfl, ho2, hp2⟩; have hs2 := ho2.slice; rw [hp2] at hs2; have HS1b := Lib.hid (HS1.out.below hB2); have HS2 := Lib.hid hs2; have HB2 := Lib.hid (HB1.out.trans (hB2.mono HB1.out.size)); clear hB2 ho2 hp2 hs2)
     | (go_at_call 9; refine (HO.out _ HB2.out).mono ?_; rintro e y3 ⟨hB3, bv, rfl, hob⟩; obtain ⟨pv, nv1, cv, rfl⟩ := own_form hob; have HS1c := Lib.hid (HS1b.out.below hB3); have HS2c := Lib.hid (HS2.out.below hB3); have HBo := Lib.hid (ownL_body hob); have HB3 := Lib.hid (HB2.out.trans (hB3.mono HB2.out.size)); clear hB3 hob))
    have HB4 := Lib.hid (below_next HB3.out (below_lex y3 (.cells (ruleC ((a0, a1, a2, a3), (b0, b1, b2, b3), (c0, c1, c2, c3)) (.slice pv nv1 cv)) 38)))
    have HZ4 := Lib.hid (block_new y3 (ruleC ((a0, a1, a2, a3), (b0, b1, b2, b3), (c0, c1, c2, c3)) (.slice pv nv1 cv)) 38)
    have HS1d := Lib.hid (HS1c.out.below (below_lex y3 (.cells (ruleC ((a0, a1, a2, a3), (b0, b1, b2, b3), (c0, c1, c2, c3)) (.slice pv nv1 cv)) 38)))
    have HS2d := Lib.hid (HS2c.out.below (below_lex y3 (.cells (ruleC ((a0, a1, a2, a3), (b0, b1, b2, b3), (c0, c1, c2, c3)) (.slice pv nv1 cv)) 38)))
    have HBo4 := Lib.hid (HBo.out.below (below_lex y3 (.cells (ruleC ((a0, a1, a2, a3), (b0, b1, b2, b3), (c0, c1, c2, c3)) (.slice pv nv1 cv)) 38)))
    generalize y3.alloc (.cells (ruleC ((a0, a1, a2, a3), (b0, b1, b2, b3), (c0, c1, c2, c3)) (.slice pv nv1 cv)) 38) = y4 at *
    generalize y3.heap.size = gA at *
    clear HS1 HS2 HS1b HS1c HS2c HBo HB1 HB2 HB3 HP HO HRf
    obtain ⟨gB, oB, cq, rfl, _, _, hrow⟩ : ∃ gB oB cap, v2 = .slice (some ⟨gB, oB, none⟩) 1 cap ∧ 1 ≤ cap ∧ cap ≤ maxLen ∧ RowRu y4 gB oB [(((a0, a1, a2, a3), (b0, b1, b2, b3), (c0, c1, c2, c3)), ls)] := by
     rcases HS2d.out with ⟨_, h⟩ | ⟨g, o, c, h1, h2, h3, h4⟩
     ·cases h
     ·exact ⟨g, o, c, h1, h2, h3, h4⟩
    have HRow := Lib.hid hrow
    clear hrow
    go_upto_region 11 with (first
     | (go_at_call 10; refine (same6_any _ _ [(((a0, a1, a2, a3), (b0, b1, b2, b3), (c0, c1, c2, c3)), ls)] y4 HS1d.out HS2d.out).mono ?_; rintro e y5 ⟨rfl, hB5⟩; have HZ5 := Lib.hid (HZ4.out.kept hB5); have HRow5 := Lib.hid (HRow.out.below hB5); have HBo5 := Lib.hid (HBo4.out.below hB5); have HB5 := Lib.hid (HB4.out.trans (hB5.mono HB4.out.size)); clear hB5)
     | (go_at_call 11; refine (num6_any _ _).mono ?_; rintro e y7 ⟨rfl, rfl⟩))
    obtain ⟨vy, ry, by_⟩ := HRow5.out 0 _ rfl
    rw [Nat.zero_mul, Nat.add_zero] at ry
    have bx := HBo5.out
    have rx := HZ5.out.ruleAt
    have hSame := fun W (h : Below y5.heap.size y5 W) => refSame_any ((a0, a1, a2, a3), (b0, b1, b2, b3), (c0, c1, c2, c3)) ((a0, a1, a2, a3), (b0, b1, b2, b3), (c0, c1, c2, c3)) _ vy ls ls W (bx.below h) (by_.below h)
    obtain ⟨pv2, cv2, ev, _, _⟩ := bx.form
    injection ev with ev1 ev2 ev3
    subst ev1 ev2 ev3
    obtain ⟨pu, cu, rfl, _, _⟩ := by_.form
    have HS := Lib.hid (reads_start rx ry)
    obtain ⟨n1, hn1⟩ : ∃ n1, n1 = ls.length := ⟨_, rfl⟩
    rw [← hn1] at HS hSame
    have HSa : Hid (∀ W, Below y5.heap.size y5 W → Calls Tryz.prog 12 #[.agg #[.string a0, .int .i64 a1, .string a2, .string a3, .string b0, .int .i64 b1, .string b2, .string b3, .string c0, .int .i64 c1, .string c2, .string c3, .slice pv n1 cv], .agg #[.string a0, .int .i64 a1, .string a2, .string a3, .string b0, .int .i64 b1, .string b2, .string b3, .string c0, .int .i64 c1, .string c2, .string c3, .slice pu n1 cu]] W fun e w' => e = .returned (.bool true) ∧ Below W.heap.size W w') := Lib.hid (fun W h => by
     have := hSame W h
     rw [decide_eq_true rfl, decide_eq_true rfl] at this
     exact this)
    have HKy : Hid (∀ W, Below y5.heap.size y5 W → Calls Tryz.prog 6 #[] W fun e w' => e = .returned (.bool true) ∧ Below W.heap.size W w') := Lib.hid (fun W h => HKn.out W (HB5.out.trans (h.mono HB5.out.size)))
    clear rx ry bx by_ hSame hn1
    go_region_held3 (fun W' => W'.cell? ⟨gA, 0, none⟩ = some (.string a0) ∧ W'.cell? ⟨gA, 1, none⟩ = some (.int .i64 a1) ∧ W'.cell? ⟨gA, 2, none⟩ = some (.string a2) ∧ W'.cell? ⟨gA, 3, none⟩ = some (.string a3) ∧ W'.cell? ⟨gA, 4, none⟩ = some (.string b0) ∧ W'.cell? ⟨gA, 5, none⟩ = some (.int .i64 b1) ∧ W'.cell? ⟨gA, 6, none⟩ = some (.string b2) ∧ W'.cell? ⟨gA, 7, none⟩ = some (.string b3) ∧ W'.cell? ⟨gA, 8, none⟩ = some (.string c0) ∧ W'.cell? ⟨gA, 9, none⟩ = some (.int .i64 c1) ∧ W'.cell? ⟨gA, 10, none⟩ = some (.string c2) ∧ W'.cell? ⟨gA, 11, none⟩ = some (.string c3) ∧ W'.cell? ⟨gA, 12, none⟩ = some (.slice pv n1 cv) ∧ W'.cell? ⟨gB, oB, none⟩ = some (.string a0) ∧ W'.cell? ⟨gB, oB + 1, none⟩ = some (.int .i64 a1) ∧ W'.cell? ⟨gB, oB + 2, none⟩ = some (.string a2) ∧ W'.cell? ⟨gB, oB + 3, none⟩ = some (.string a3) ∧ W'.cell? ⟨gB, oB + 4, none⟩ = some (.string b0) ∧ W'.cell? ⟨gB, oB + 5, none⟩ = some (.int .i64 b1) ∧ W'.cell? ⟨gB, oB + 6, none⟩ = some (.string b2) ∧ W'.cell? ⟨gB, oB + 7, none⟩ = some (.string b3) ∧ W'.cell? ⟨gB, oB + 8, none⟩ = some (.string c0) ∧ W'.cell? ⟨gB, oB + 9, none⟩ = some (.int .i64 c1) ∧ W'.cell? ⟨gB, oB + 10, none⟩ = some (.string c2) ∧ W'.cell? ⟨gB, oB + 11, none⟩ = some (.string c3) ∧ W'.cell? ⟨gB, oB + 12, none⟩ = some (.slice pu n1 cu) ∧ Below y5.heap.size y5 W') ((first | assumption | exact HS.out | exact reads_step (by assumption) (by assumption))) (first
     | (go_at_call 12; (with_reducible refine (HSa.out _ (reads_low (by assumption))).mono ?_); rintro e w3 ⟨rfl, hB3⟩)
     | (go_at_call 11; (with_reducible refine (num6_any _ _).mono ?_); rintro e w3 ⟨rfl, rfl⟩)
     | (go_at_call 6; (with_reducible refine (HKy.out _ (reads_low (by assumption))).mono ?_); rintro e w3 ⟨rfl, hB3⟩))
    all_goals
     rename_i hHeld
     have hbx := reads_low hHeld
     clear hHeld
     have HBx := Lib.hid (HB5.out.trans (hbx.mono HB5.out.size))
     clear hbx
     go_wp2_with fail
     go_ret
     exact ⟨rfl, HBx.out⟩
   ·have e3 : (((rs.length : Nat) : Int) == 1) = false := by rw [beq_eq_false_iff_ne]; omega
    have HOz : Hid (∀ W, Below w.heap.size w W → Calls Tryz.prog 9 #[.string s] W fun e w' => Below W.heap.size W w' ∧ e = .returned (.tuple #[.agg (ruleC zPa nilS), .int .i64 4])) := Lib.hid (fun W hW => (HO.out W hW).mono (fun e w' h => by
     refine ⟨h.1, ?_⟩
     have h2 := h.2
     match rs, h1, h2 with
     | [], _, h2 => exact h2
     | x :: y :: r, _, h2 => exact h2))
    clear HO h1
    go_enter Tryz.func3, Tryz.ntmps3
    go_upto_region 8 with (first
     | (go_at_call 7; refine HP.out.mono ?_; rintro e y1 ⟨hB1, v1, p1, rfl, ho1, hp1⟩; have HB1 := Lib.hid hB1; have hs1 := ho1.slice; rw [hp1] at hs1; have HS1 := Lib.hid hs1; clear hB1 ho1 hp1 hs1)
     | (go_at_call 8; refine (HRf.out _).mono ?_; rintro e y2 ⟨hB2, v2, p2, rfl, ho2, hp2⟩; have hs2 := ho2.slice; rw [hp2] at hs2; have HS1b := Lib.hid (HS1.out.below hB2); have HS2 := Lib.hid hs2; have HB2 := Lib.hid (HB1.out.trans (hB2.mono HB1.out.size)); clear hB2 ho2 hp2 hs2)
     | (go_at_call 9; refine (HOz.out _ HB2.out).mono ?_; rintro e y3 ⟨hB3, rfl⟩; have HS1c := Lib.hid (HS1b.out.below hB3); have HS2c := Lib.hid (HS2.out.below hB3); have HB3 := Lib.hid (HB2.out.trans (hB3.mono HB2.out.size)); clear hB3))
    obtain ⟨pu, cu, rfl, _, _⟩ := HS2c.out.form
    have HB4 := Lib.hid (below_next HB3.out (below_lex y3 (.cells (ruleC zPa nilS) 38)))
    have HZ4 := Lib.hid (block_new y3 (ruleC zPa nilS) 38)
    have HS1d := Lib.hid (HS1c.out.below (below_lex y3 (.cells (ruleC zPa nilS) 38)))
    have HS2d := Lib.hid (HS2c.out.below (below_lex y3 (.cells (ruleC zPa nilS) 38)))
    generalize y3.alloc (.cells (ruleC zPa nilS) 38) = y4 at *
    generalize y3.heap.size = gA at *
    go_upto_region 10 with (first
     | (go_at_call 10; refine (same6_any _ _ rs y4 HS1d.out HS2d.out).mono ?_; rintro e y5 ⟨rfl, hB5⟩; have HZ5 := Lib.hid (HZ4.out.kept hB5); have HB5 := Lib.hid (HB4.out.trans (hB5.mono HB4.out.size)); clear hB5)
     | (go_at_call 11; refine (num6_any _ _).mono ?_; rintro e y7 ⟨rfl, rfl⟩))
    have r0 : BlockAt y4 gA (ruleC zPa nilS) 38 := HZ4.out
    have HSa : Hid (∀ W, Calls Tryz.prog 12 #[.agg (ruleC zPa nilS), .agg (ruleC zPa nilS)] W fun e w' => e = .returned (.bool true) ∧ Below W.heap.size W w') := Lib.hid (fun W => by
     have := refSame_any zPa zPa nilS nilS [] [] W (.inl ⟨⟨_, _, rfl⟩, rfl⟩) (.inl ⟨⟨_, _, rfl⟩, rfl⟩)
     rw [decide_eq_true rfl, decide_eq_true rfl] at this
     exact this)
    have HR13 : Hid ((Tryz.prog.info? 38).map (·.size) = some 13) := Lib.hid (by kernel_rfl)
    clear r0
    go_wp2_with (first
     | (refine wpList_load_mid rfl 38 (.tmp 9) rfl gA 0 rfl (ruleC zPa nilS).toList _ HZ5.out.range Tryz.underlying38 rfl HR13.out ?_)
     | (go_at_call 12; refine (HSa.out _).mono ?_; rintro e y6 ⟨rfl, hY6⟩; have HB6 := Lib.hid (HB5.out.trans (hY6.mono HB5.out.size)); clear hY6)
     | (go_at_call 11; refine (num6_any _ _).mono ?_; rintro e y7 ⟨rfl, rfl⟩)
     | (go_at_call 6; refine (HKn.out _ HB6.out).mono ?_; rintro e y8 ⟨rfl, hY8⟩; have HB8 := Lib.hid (HB6.out.trans (hY8.mono HB6.out.size)); clear hY8))
    go_ret
    exact ⟨rfl, HB8.out⟩
 ·have d1 : decide ((9000 : Int) < (s.size : Int)) = true := by simp; omega
  have d1n : decide (9000 < s.size) = true := by simp; omega
  have HK := Lib.hid (HKn.out w (Below.refl _ _))
  clear HPa HOn HKn hs
  go_enter Tryz.func3, Tryz.ntmps3
  go_wp2_with (go_at_call 6; refine HK.out.mono ?_; rintro e z ⟨rfl, hZ⟩)
  go_ret
  exact ⟨rfl, hZ⟩
end Go.Proofs.YtnbdomfbklelaaaGreatDoor
