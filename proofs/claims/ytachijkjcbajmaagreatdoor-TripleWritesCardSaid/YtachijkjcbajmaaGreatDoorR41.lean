/-
  WHAT THE PROOF STANDS ON, a part of it: NtParse, NtText, NtRefText, NtKnown, NtWrites.
-/
import Derived.Test.YtachijkjcbajmaaGreatDoorR40
import Derived.Test.YtachijkjcbajmaaGreatDoorR20
import Derived.Test.YtachijkjcbajmaaGreatDoorR29
import Derived.Test.YtachijkjcbajmaaGreatDoorR32
/-
  THE CONTRACTS OF ntriples.Parse, One.
-/

namespace Go.Proofs.YtachijkjcbajmaaGreatDoor
open Go.RowKit
open Utf Term Lex
set_option linter.unusedVariables false
set_option linter.unusedSimpArgs false

abbrev Hrp (n : Nat) : Prop := 0 < n ∧ 1 < n ∧ 2 < n
theorem Hrp.le {n m : Nat} (h : Hrp n) (k : n ≤ m) : Hrp m := ⟨by have := h.1; omega, by have := h.2.1; omega, by have := h.2.2; omega⟩

/-- All, for one that reads a document. -/
theorem all_doc (s : ByteArray) (hs : s.size ≤ 1000000000) (w : World) (hv : LexEnv w) (hrp : Hrp w.heap.size) :
    (∃ p c : Nat, c ≠ 0 ∧ c ≤ 4 ∧ docS s = .bad p c ∧ Calls Tryz.prog 31 #[.string s] w fun e w' => e = .returned (.tuple #[.slice none 0 0, .int .i64 p, .int .i64 c]) ∧ Below w.heap.size w w') ∨
    (docS s = docOf s.size (parseS (allL (bs s)).1) ∧ s.size ≤ 1048576 ∧ Calls Tryz.prog 31 #[.string s] w fun e w' => ∃ v, e = .returned (.tuple #[v, .int .i64 0, .int .i64 0]) ∧ w'.ownsRow w.heap.size 43 6 v (allL (bs s)).1.length (flatS (allL (bs s)).1) ∧ Below w.heap.size w w') := by
  have h := all_any lexEscape_any s hs w hv hrp
  unfold docS
  by_cases h1 : 1048576 < s.size
  · refine .inl ⟨0, 3, by decide, by decide, by rw [if_pos h1], h.mono ?_⟩
    intro e w' h
    unfold AllOut at h
    rw [if_pos h1] at h
    exact ⟨h.2, h.1⟩
  rw [if_neg h1]
  by_cases h2 : wfL (bs s) < s.size
  · refine .inl ⟨wfL (bs s), 4, by decide, by decide, by rw [if_pos h2], h.mono ?_⟩
    intro e w' h
    unfold AllOut at h
    rw [if_neg h1, if_pos h2] at h
    exact ⟨h.2, h.1⟩
  rw [if_neg h2]
  by_cases h3 : (allL (bs s)).2 < s.size
  · refine .inl ⟨(allL (bs s)).2, 4, by decide, by decide, by rw [if_pos h3], h.mono ?_⟩
    intro e w' h
    unfold AllOut at h
    rw [if_neg h1, if_neg h2, if_pos h3] at h
    exact ⟨h.2, h.1⟩
  rw [if_neg h3]
  refine .inr ⟨rfl, by omega, h.mono ?_⟩
  intro e w' h
  unfold AllOut at h
  rw [if_neg h1, if_neg h2, if_neg h3] at h
  obtain ⟨hB, v, rfl, ho⟩ := h
  exact ⟨v, rfl, ho, hB⟩

/-- What Parse answers. -/
def ParseOut (r : DocR) (w : World) (e : Ending) (w' : World) : Prop :=
  Below w.heap.size w w' ∧ match r with
  | .bad p c => e = .returned (.tuple #[.slice none 0 0, .int .i64 p, .int .i64 c])
  | .good ts => ∃ v, e = .returned (.tuple #[v, .int .i64 0, .int .i64 0]) ∧ w'.ownsRow w.heap.size 51 9 v ts.length (cellsT ts)

/-- A slice of one triple in a block of its own. -/
theorem sliceT_new (w : World) (t : TripD) : SliceT (w.alloc (.cells (nineC t.1 t.2.1 t.2.2) 51)) (.slice (some ⟨w.heap.size, 0, none⟩) 1 1) [t] := by
  refine .inr ⟨w.heap.size, 0, 1, rfl, Nat.le_refl _, by decide, fun j u hu => ?_⟩
  rw [Nat.zero_add]
  have hb := block_new w (nineC t.1 t.2.1 t.2.2) 51
  refine hb.cell ?_
  rw [← Array.getElem?_toList]
  have : cellsT [t] = (nineC t.1 t.2.1 t.2.2).toList := rfl
  rw [← this]
  exact hu

/-- The state at the head of Parse's loop. -/
def ParseRel (n : Nat) (P : Par) (w : World) (tb : Nat) (R : List Sym) (vl : Value) (wr : World) : Prop :=
  ∃ (acc : List TripD) (vv : Value), P = (parseS R).put acc ∧ TkAt wr tb vv R ∧ LowV tb vv ∧ (∀ x ∈ R, GoodS n x) ∧ acc.length + R.length ≤ 1048576 ∧
    wr.ownsRow (tb + 1) 51 9 vl acc.length (cellsT acc) ∧ Below w.heap.size w wr ∧ tb < wr.heap.size ∧ LexEnv wr

set_option maxRecDepth 100000 in
set_option maxHeartbeats 16000000 in
theorem ntParse_any (s : ByteArray) (hs : s.size ≤ 1000000000) (w : World) (hv : LexEnv w) (hrp : Hrp w.heap.size) :
    Calls Tryz.prog 19 #[.string s] w (ParseOut (docS s) w) := by
  obtain ⟨F, hF⟩ : ∃ F, F = ParseOut (docS s) w := ⟨_, rfl⟩
  rcases all_doc s hs w hv hrp with ⟨p, c, hc0, hc4, hd, hA⟩ | ⟨hd, hsz, hA⟩
  · have HF : Hid (∀ W, Below w.heap.size w W → F (.returned (.tuple #[.slice none 0 0, .int .i64 p, .int .i64 c])) W) := Lib.hid (fun W hW => by rw [hF, hd]; exact ⟨hW, rfl⟩)
    rw [← hF]
    have HA := Lib.hid hA
    have d1 : ((c : Int) != 0) = true := by rw [bne_iff_ne]; omega
    clear hF hd hA hv hrp
    go_enter Tryz.func19, Tryz.ntmps19
    go_wp2_with (go_at_call 31; refine HA.out.mono ?_; rintro e w1 ⟨rfl, hB1⟩)
    go_ret3
    exact HF.out _ hB1
  · have hgood := all_good s
    have hfew := syms_few s
    have HP : Hid (docS s = docOf s.size (parseS (allL (bs s)).1)) := Lib.hid hd
    have HFb : Hid (∀ l W, parseS (allL (bs s)).1 = .no l → Below w.heap.size w W → F (.returned (.tuple #[.slice none 0 0, .int .i64 (placeS s.size l), .int .i64 4])) W) := Lib.hid (fun l W hl hW => by rw [hF, hd, hl]; exact ⟨hW, rfl⟩)
    have HFg : Hid (∀ ts v W, parseS (allL (bs s)).1 = .yes ts → Below w.heap.size w W → W.ownsRow w.heap.size 51 9 v ts.length (cellsT ts) → F (.returned (.tuple #[v, .int .i64 0, .int .i64 0])) W) := Lib.hid (fun ts v W hl hW ho => by rw [hF, hd, hl]; exact ⟨hW, v, rfl, ho⟩)
    rw [← hF]
    have HA := Lib.hid hA
    have HV := Lib.hid hv
    have HRp := Lib.hid hrp
    clear hF hd hA hv hrp
    generalize (allL (bs s)).1 = L at *
    have HG := Lib.hid hgood
    clear hgood HP
    obtain ⟨P, hP⟩ : ∃ P, P = parseS L := ⟨_, rfl⟩
    rw [← hP] at HFb HFg
    have HP := Lib.hid hP
    clear hP
    go_enter Tryz.func19, Tryz.ntmps19
    go_upto_region 2 with (go_at_call 31; refine HA.out.mono ?_; rintro e w1 ⟨v, rfl, ho, hB1⟩)
    have hsl := SlA.of (slice_of_owns ho)
    obtain ⟨ao, cap, rfl, _⟩ := owns_formL ho
    have HB1 := Lib.hid hB1
    have HSl := Lib.hid hsl
    have HLo := Lib.hid hsl.low
    clear ho hsl hB1 HA
    go_upto_region 6 with (go_at_call 36; refine (ntTaking_any _ _ _ _).mono ?_; rintro e w2 ⟨rfl, rfl⟩)
    have HT2 : Hid (TkAt (w1.alloc (.cells #[.slice ao L.length cap] 25)) w1.heap.size (.slice ao L.length cap) L) := Lib.hid ⟨block_new _ _ _, HSl.out.below (below_lex _ _)⟩
    have HB2 : Hid (Below w.heap.size w (w1.alloc (.cells #[.slice ao L.length cap] 25))) := Lib.hid (below_next HB1.out (below_lex _ _))
    have HS2 : Hid (w1.heap.size < (w1.alloc (.cells #[.slice ao L.length cap] 25)).heap.size) := Lib.hid (by simp)
    have hw1 : w.heap.size ≤ w1.heap.size := HB1.out.size
    clear HB1 HSl
    generalize w1.alloc (.cells #[.slice ao L.length cap] 25) = w2 at *
    generalize w1.heap.size = tb at *
    go_loopg [8] L.length (fun gg u wr => ∃ (R : List Sym) (vl : Value), vl = u ∧ R.length ≤ gg ∧ ParseRel s.size P w tb R vl wr)
    case atStart =>
      refine ⟨L, _, rfl, Nat.le_refl _, [], _, ?_, HT2.out, HLo.out, HG.out, by simp; omega, World.ownsRow_nil _ _ _ _, HB2.out, HS2.out, HV.out.below HB2.out⟩
      rw [Par.put_nil]; exact HP.out
    case round =>
      obtain ⟨R, vl, rfl, hgg, acc, vv, hpar, htk, hlo, hgR, hcnt, hown, hB, htb, hE⟩ := hrel
      have HPa := Lib.hid hpar
      have HTk := Lib.hid htk
      have HLo2 := Lib.hid hlo
      have HGR := Lib.hid hgR
      have HO := Lib.hid hown
      have HB := Lib.hid hB
      have HE := Lib.hid hE
      have HTa := Lib.hid (ntTake_any tb 0 vv R (Nat.zero_le _) (by omega) wr htk)
      clear hpar htk hgR hown hB hE HT2 HB2 HS2 HP hlo HLo
      cases R with
      | nil =>
        have HPx : Hid (P = .yes acc) := Lib.hid (by rw [HPa.out, parseS_nil]; simp [Par.put])
        go_upto_region 11 with (go_at_call 67; refine HTa.out.mono ?_; rintro e y1 ⟨v1, rfl, hT1, hM1, _⟩; obtain ⟨p1, c1, rfl⟩ : ∃ p c, v1 = .slice p 0 c := (by rcases hT1.sl with ⟨rfl, _⟩ | ⟨g, o, cap, rfl, _⟩ <;> exact ⟨_, _, rfl⟩))
        have hB1 : Below w.heap.size wr y1 := hM1.below (by have := HB.out.size; omega) hw1
        have ho1 : y1.ownsRow (tb + 1) 51 9 vl acc.length (cellsT acc) := HO.out.kept (row := some tb) ⟨hM1.os, hM1.tape, hM1.output, hM1.size, fun k hk hn => hM1.block k hk (fun e => hn (by rw [e]))⟩ (.inr (fun e => by have := (HO.out.lt _ e).1; omega))
        have HBy := Lib.hid (HB.out.trans hB1)
        have HOy := Lib.hid (ho1.low (B := w.heap.size) (by omega))
        clear hB1 ho1 hT1 hM1
        go_wp2_with fail
        go_ret3
        exact HFg.out acc _ _ HPx.out HBy.out HOy.out
      | cons x r =>
        have hne : x :: r ≠ [] := by simp
        have HPs := Lib.hid (parseS_cons (x :: r) hne)
        go_upto_region 7 with (go_at_call 67; refine HTa.out.mono ?_; rintro e y1 ⟨v1, rfl, hT1, hM1, hl1⟩; obtain ⟨p1, c1, rfl⟩ : ∃ p c, v1 = .slice p (List.length (x :: r)) c := (by rcases hT1.sl with ⟨_, h⟩ | ⟨g, o, cap, rfl, _⟩; exact absurd h hne; exact ⟨_, _, rfl⟩))
        have hB1 : Below w.heap.size wr y1 := hM1.below (by have := HB.out.size; omega) hw1
        have ho1 : y1.ownsRow (tb + 1) 51 9 vl acc.length (cellsT acc) := HO.out.kept (row := some tb) ⟨hM1.os, hM1.tape, hM1.output, hM1.size, fun k hk hn => hM1.block k hk (fun e => hn (by rw [e]))⟩ (.inr (fun e => by have := (HO.out.lt _ e).1; omega))
        have hs1 := hM1.size
        have HE1 := Lib.hid (HE.out.under hB1 HRp.out)
        have HLo3 := Lib.hid (hl1 _ HLo2.out)
        have HBy := Lib.hid (HB.out.trans hB1)
        have HOy := Lib.hid ho1
        have HSt := Lib.hid (ntStm_any s.size (by omega) tb _ (x :: r) HGR.out (by omega) y1 HE1.out (by omega) (HRp.out.le hw1) (by have := hT1; rwa [List.drop_zero] at this))
        clear hB1 ho1 hT1 hM1 HTk HTa HE HB HO
        cases hst : stmS (x :: r) with
        | no l =>
          have HPx : Hid (P = .no l) := Lib.hid (by rw [HPa.out, HPs.out, hst]; rfl)
          rw [hst] at HSt
          clear hst HPs HPa
          go_upto_region 9 with (go_at_call 37; refine HSt.out.mono ?_; rintro e y2 ⟨hM2, v2, v3, rfl, hsl, hbl⟩)
          have hB2 : Below w.heap.size y1 y2 := hM2.below (by have := HBy.out.size; omega) hw1
          have HB2 := Lib.hid (below_next (HBy.out.trans hB2) (below_lex y2 (.cells (nineC zT zT zT) 51)))
          have HPl := Lib.hid (ntPlace_any v2 l s.size _ (hsl.below (below_lex y2 (.cells (nineC zT zT zT) 51))))
          clear hM2 hsl hbl hB2 HSt
          go_wp2_with (go_at_call 38; refine HPl.out.mono ?_; rintro e y3 ⟨rfl, rfl⟩)
          go_ret3
          exact HFb.out l _ HPx.out HB2.out
        | yes t l =>
          have hyes := stmS_yes hst
          have HPx : Hid (P = (parseS l).put (acc ++ [t])) := Lib.hid (by rw [HPa.out, HPs.out, hst]; exact Par.put_put _ _ _)
          rw [hst] at HSt
          have hlen : l.length + 1 ≤ (x :: r).length := by
            obtain ⟨k, rfl, hk, _⟩ := hyes
            rw [List.length_drop]
            have : 0 < (x :: r).length := by simp
            omega
          have HGl : Hid (∀ y ∈ l, GoodS s.size y) := Lib.hid (fun y hy => by
            obtain ⟨k, rfl, hk, _⟩ := hyes
            exact HGR.out y (List.mem_of_mem_drop hy))
          clear hst HPs HPa hyes
          go_upto_region 8 with (go_at_call 37; refine HSt.out.mono ?_; rintro e y2 ⟨hM2, v2, rfl, hT2, hl2⟩)
          have hB2 : Below w.heap.size y1 y2 := hM2.below (by have := HBy.out.size; omega) hw1
          have ho2 : y2.ownsRow (tb + 1) 51 9 vl acc.length (cellsT acc) := HOy.out.kept (row := some tb) ⟨hM2.os, hM2.tape, hM2.output, hM2.size, fun k hk hn => hM2.block k hk (fun e => hn (by rw [e]))⟩ (.inr (fun e => by have := (HOy.out.lt _ e).1; omega))
          have hs2 := hM2.size
          have hX3 := block_new y2 (nineC t.1 t.2.1 t.2.2) 51
          have hB3 : Below y2.heap.size y2 (y2.alloc (.cells (nineC t.1 t.2.1 t.2.2) 51)) := below_lex _ _
          have HLo4 := Lib.hid (hl2 _ HLo3.out)
          have HB3 := Lib.hid (below_next (HBy.out.trans hB2) hB3)
          have HO3 := Lib.hid (ho2.alloc (.cells (nineC t.1 t.2.1 t.2.2) 51))
          have HT3 := Lib.hid (hT2.below hB3)
          have HE3 := Lib.hid ((HE1.out.under hB2 HRp.out).below hB3)
          have hs3 : y2.heap.size + 1 = (y2.alloc (.cells (nineC t.1 t.2.1 t.2.2) 51)).heap.size := by simp
          clear hM2 hT2 hB2 ho2 hB3 HSt HOy HBy HE1
          generalize y2.alloc (.cells (nineC t.1 t.2.1 t.2.2) 51) = W3 at *
          have x0 := hX3.cell (j := 0) rfl
          have x1 := hX3.cell (j := 1) rfl
          have x2 := hX3.cell (j := 2) rfl
          have x3 := hX3.cell (j := 3) rfl
          have x4 := hX3.cell (j := 4) rfl
          have x5 := hX3.cell (j := 5) rfl
          have x6 := hX3.cell (j := 6) rfl
          have x7 := hX3.cell (j := 7) rfl
          have x8 := hX3.cell (j := 8) rfl
          go_wp2_with (at_builtin; refine wpList_append_slice rfl _ _ rfl (tb + 1) vl acc rfl (HO3.out.alloc _) _ [t] rfl (sliceT_new W3 t) (by omega) (by simp) (by simp; omega) ?_; intro vo w4 hown4 hB4)
          have hB3a : Below W3.heap.size W3 (W3.alloc (.cells (nineC t.1 t.2.1 t.2.2) 51)) := below_lex _ _
          have hB34 : Below (tb + 1) W3 w4 := (hB3a.mono (by omega)).trans hB4
          have hs4 := hB34.size
          go_roundg l.length
          case rel =>
            exact ⟨l, _, rfl, Nat.le_refl _, acc ++ [t], v2, HPx.out, ⟨HT3.out.blk.under hB34 (by omega), HT3.out.sl.under HLo4.out (hB34.mono (Nat.le_succ _))⟩, HLo4.out, HGl.out, by rw [List.length_append]; simp at *; omega, hown4, HB3.out.trans (hB34.mono (by omega)), by omega, HE3.out.under hB34 (HRp.out.le (by omega))⟩
          case measure => simp only [List.length_cons] at *; omega

def oneD : DocR → Option TripD
  | .good [t] => some t
  | _ => none
/-- What One answers. -/
def OneOut (r : Option TripD) (w : World) (e : Ending) (w' : World) : Prop :=
  Below w.heap.size w w' ∧ match r with
  | some t => e = .returned (.tuple #[tripleV t.1 t.2.1 t.2.2, .int .i64 0])
  | none => e = .returned (.tuple #[tripleV zT zT zT, .int .i64 4])
theorem results_one {fn : Func} {p u : Tmp} (h : fn.results = #[.cell p 51, .tmp u]) (tmps : Array Value) (w : World) (g : Nat) (a b c : TermD)
    (hp : tmps.getD p undef = .pointer (some ⟨g, 0, none⟩)) (hx : BlockAt w g (nineC a b c) 51) :
    (results fn tmps).run Tryz.prog w = .ok (.tuple #[tripleV a b c, tmps.getD u undef]) w := by
  have h1 := run_loadVar_row (P := Tryz.prog) w g 51 51 (nineC a b c) (0, 0) _ hx Tryz.underlying51 rfl (by kernel_rfl)
  have hp' : tmps[p]?.getD undef = .pointer (some ⟨g, 0, none⟩) := by simpa using hp
  simp only [results, h]
  simp [Sem.run_bind, Result.andThen, hp', asAddr, h1]

set_option maxRecDepth 100000 in
set_option maxHeartbeats 8000000 in
theorem ntOne_any (s : ByteArray) (hs : s.size ≤ 1000000000) (w : World) (hv : LexEnv w) (hrp : Hrp w.heap.size) :
    Calls Tryz.prog 21 #[.string s] w (OneOut (oneD (docS s)) w) := by
  have hB : Below w.heap.size w (w.alloc (.cells (nineC zT zT zT) 51)) := below_lex _ _
  have hR : BlockAt (w.alloc (.cells (nineC zT zT zT) 51)) w.heap.size (nineC zT zT zT) 51 := block_new _ _ _
  have hsz : (w.alloc (.cells (nineC zT zT zT) 51)).heap.size = w.heap.size + 1 := by simp
  obtain ⟨W0, hW0⟩ : ∃ W0, W0 = (w.alloc (.cells (nineC zT zT zT) 51)) := ⟨_, rfl⟩
  rw [← hW0] at hB hR hsz
  have HP := Lib.hid (ntParse_any s hs W0 (hv.below hB) (hrp.le hB.size))
  have HB := Lib.hid hB
  have HR := Lib.hid hR
  have HW0 := Lib.hid hW0
  obtain ⟨F, hF⟩ : ∃ F, F = OneOut (oneD (docS s)) w := ⟨_, rfl⟩
  have HF := Lib.hid hF
  rw [← hF]
  clear hF hB hR hW0 hv hrp
  obtain ⟨D, hD⟩ : ∃ D, D = docS s := ⟨_, rfl⟩
  rw [← hD] at HP HF
  have hbad : ∀ p c, D = .bad p c → c = 3 ∨ c = 4 := fun p c h => docS_bad (hD.symm.trans h)
  clear hD
  cases D with
  | bad p c =>
    have hc := hbad p c rfl
    clear hbad
    · have d1 : ((c : Int) != 0) = true := by rw [bne_iff_ne]; omega
      go_enter Tryz.func21, Tryz.ntmps21
      go_upto_region 1 with fail
      rw [← HW0.out]
      go_wp2_with (go_at_call 19; refine HP.out.mono ?_; rintro e y ⟨hY, rfl⟩; have hbR1 := HR.out.kept hY; have k0 := hbR1.cell (j := 0) rfl; have k1 := hbR1.cell (j := 1) rfl; have k2 := hbR1.cell (j := 2) rfl; have k3 := hbR1.cell (j := 3) rfl; have k4 := hbR1.cell (j := 4) rfl; have k5 := hbR1.cell (j := 5) rfl; have k6 := hbR1.cell (j := 6) rfl; have k7 := hbR1.cell (j := 7) rfl; have k8 := hbR1.cell (j := 8) rfl; have kf : ∀ j, y.frozen? ⟨w.heap.size, j, none⟩ = false := fun j => hbR1.free j)
      refine bodyPost_ret (results_one (p := 2) (u := 3) rfl _ _ w.heap.size zT zT zT rfl (block_set9 hbR1 zT zT zT)) rfl ?_
      rw [HF.out]
      have hB4 : Below w.heap.size w (set9 y w.heap.size zT zT zT) := below_set9 (HB.out.trans (hY.mono HB.out.size)) (Nat.le_refl _) zT zT zT
      exact ⟨hB4, rfl⟩
  | good ts =>
    clear hbad
    by_cases h1 : ts.length = 1
    · obtain ⟨t, rfl⟩ : ∃ t, ts = [t] := List.length_eq_one_iff.1 h1
      clear h1
      go_enter Tryz.func21, Tryz.ntmps21
      go_upto_region 1 with fail
      rw [← HW0.out]
      go_upto_region 2 with (go_at_call 19; refine HP.out.mono ?_; rintro e y ⟨hY, v, rfl, ho⟩)
      have hsl := owns_slice ho
      rcases hsl with ⟨_, h⟩ | ⟨g, o, cap, rfl, h1, h2, hrow⟩
      · cases h
      obtain ⟨c0, c1, c2, c3, c4, c5, c6, c7, c8⟩ := hrow.nine (p := 0) (x := t) rfl
      simp only [Nat.zero_mul, Nat.add_zero] at c0 c1 c2 c3 c4 c5 c6 c7 c8
      have hbR1 := HR.out.kept hY
      have HBR1 := Lib.hid hbR1
      have HB4 : Hid (Below w.heap.size w (set9 y w.heap.size t.1 t.2.1 t.2.2)) := Lib.hid (below_set9 (HB.out.trans (hY.mono HB.out.size)) (Nat.le_refl _) t.1 t.2.1 t.2.2)
      have k0 := hbR1.cell (j := 0) rfl
      have k1 := hbR1.cell (j := 1) rfl
      have k2 := hbR1.cell (j := 2) rfl
      have k3 := hbR1.cell (j := 3) rfl
      have k4 := hbR1.cell (j := 4) rfl
      have k5 := hbR1.cell (j := 5) rfl
      have k6 := hbR1.cell (j := 6) rfl
      have k7 := hbR1.cell (j := 7) rfl
      have k8 := hbR1.cell (j := 8) rfl
      have kf : ∀ j, y.frozen? ⟨w.heap.size, j, none⟩ = false := fun j => hbR1.free j
      clear hrow hY ho hbR1 HP
      simp only [List.length_singleton] at *
      go_wp2_with fail
      refine bodyPost_ret (results_one (p := 2) (u := 3) rfl _ _ w.heap.size t.1 t.2.1 t.2.2 rfl (block_set9 HBR1.out t.1 t.2.1 t.2.2)) rfl ?_
      rw [HF.out]
      exact ⟨HB4.out, rfl⟩
    · have hn : oneD (.good ts) = none := by
        match ts, h1 with
        | [], _ => rfl
        | [t], h => exact absurd rfl h
        | _ :: _ :: _, _ => rfl
      have HN := Lib.hid hn
      have d1 : ((ts.length : Int) != 1) = true := by rw [bne_iff_ne]; omega
      clear hn h1
      go_enter Tryz.func21, Tryz.ntmps21
      go_upto_region 1 with fail
      rw [← HW0.out]
      go_upto_region 2 with (go_at_call 19; refine HP.out.mono ?_; rintro e y ⟨hY, v, rfl, ho⟩)
      obtain ⟨ao, cap, rfl, _⟩ := owns_form ho
      have hbR1 := HR.out.kept hY
      have HBR1 := Lib.hid hbR1
      have HB4 : Hid (Below w.heap.size w (set9 y w.heap.size zT zT zT)) := Lib.hid (below_set9 (HB.out.trans (hY.mono HB.out.size)) (Nat.le_refl _) zT zT zT)
      have k0 := hbR1.cell (j := 0) rfl
      have k1 := hbR1.cell (j := 1) rfl
      have k2 := hbR1.cell (j := 2) rfl
      have k3 := hbR1.cell (j := 3) rfl
      have k4 := hbR1.cell (j := 4) rfl
      have k5 := hbR1.cell (j := 5) rfl
      have k6 := hbR1.cell (j := 6) rfl
      have k7 := hbR1.cell (j := 7) rfl
      have k8 := hbR1.cell (j := 8) rfl
      have kf : ∀ j, y.frozen? ⟨w.heap.size, j, none⟩ = false := fun j => hbR1.free j
      clear hY ho hbR1 HP
      generalize ts.length = n at *
      go_wp2_with fail
      refine bodyPost_ret (results_one (p := 2) (u := 3) rfl _ _ w.heap.size zT zT zT rfl (block_set9 HBR1.out zT zT zT)) rfl ?_
      rw [HF.out, HN.out]
      exact ⟨HB4.out, rfl⟩
end Go.Proofs.YtachijkjcbajmaaGreatDoor
/-
  THE CONTRACT OF ntriples.Text.
-/

namespace Go.Proofs.YtachijkjcbajmaaGreatDoor
open Go.RowKit
open Utf Term Lex
set_option linter.unusedVariables false
set_option linter.unusedSimpArgs false

def addT (t : TripD) : Bool := addD t.1 t.2.1 t.2.2
def lineT (t : TripD) : List Int := tripleL t.1 t.2.1 t.2.2 ++ [10]
def textsL (ts : List TripD) : List Int := ts.flatMap lineT
def textR (ts : List TripD) : ByteArray × Int :=
  if ts.all addT = true then (if 1048576 < (textsL ts).length then (⟨#[]⟩, 3) else (strOfNums (textsL ts), 0)) else (⟨#[]⟩, 2)
theorem textsL_snoc (ts : List TripD) (t : TripD) : textsL (ts ++ [t]) = textsL ts ++ lineT t := by simp [textsL]
theorem add_may {t : TripD} (h : addT t = true) : (mayD t.1 && mayD t.2.1 && mayD t.2.2) = true := by
  unfold addT addD followD at h
  simp only [Bool.and_eq_true] at h ⊢
  exact h.2
theorem may_short {a : TermD} (h : mayD a = true) : (textL a.1 a.2.1 a.2.2).length ≤ 30000 := (text_valid h).2
theorem line_len {t : TripD} (h : addT t = true) : (lineT t).length ≤ 100000 := by
  have hm := add_may h
  simp only [Bool.and_eq_true] at hm
  have h1 := may_short hm.1.1
  have h2 := may_short hm.1.2
  have h3 := may_short hm.2
  unfold lineT
  have e : tripleL t.1 t.2.1 t.2.2 = textL t.1.1 t.1.2.1 t.1.2.2 ++ 32 :: (textL t.2.1.1 t.2.1.2.1 t.2.1.2.2 ++ 32 :: (textL t.2.2.1 t.2.2.2.1 t.2.2.2.2 ++ [32, 46])) := rfl
  rw [e]
  simp only [List.length_append, List.length_cons, List.length_nil]
  omega
def FitsT (t : TripD) : Prop := Fits t.1 ∧ Fits t.2.1 ∧ Fits t.2.2
theorem take_snoc {α : Type} {l : List α} {k : Nat} {x : α} (h : l[k]? = some x) : l.take (k + 1) = l.take k ++ [x] := by
  rw [List.take_add_one, h]; rfl

set_option maxRecDepth 100000 in
set_option maxHeartbeats 8000000 in
theorem ntText_any (v : Value) (ts : List TripD) (hn : ts.length ≤ 1000000) (hf : ∀ t ∈ ts, FitsT t) (w : World) (hv : SliceT w v ts) (he : LexEnv w) :
    Calls Tryz.prog 25 #[v] w fun e w' => e = .returned (.tuple #[.string (textR ts).1, .int .i64 (textR ts).2]) ∧ Below w.heap.size w w' := by
  obtain ⟨p, cap, rfl, hp⟩ : ∃ p cap, v = .slice p ts.length cap ∧ ∀ k, k < ts.length → ∃ b off, p = some ⟨b, off, none⟩ ∧ RowC w b off (cellsT ts) := by
    rcases hv with ⟨rfl, rfl⟩ | ⟨b, off, cap, rfl, h1, h2, hr⟩
    · exact ⟨_, _, rfl, fun k h => absurd h (by simp)⟩
    · exact ⟨_, _, rfl, fun k h => ⟨b, off, rfl, hr⟩⟩
  have HP := Lib.hid hp
  have HE := Lib.hid he
  have HFt := Lib.hid hf
  obtain ⟨n, hnn⟩ : ∃ n, n = ts.length := ⟨_, rfl⟩
  have HN := Lib.hid hnn
  rw [← hnn] at HP hn ⊢
  obtain ⟨R, hR⟩ : ∃ R, R = textR ts := ⟨_, rfl⟩
  rw [← hR]
  have HR := Lib.hid hR
  clear hp he hf hnn hv hR
  go_enter Tryz.func25, Tryz.ntmps25
  go_wp2_with fail
  go_loopg [13] n (fun gg i wr => ∃ k : Nat, k ≤ n ∧ n - k ≤ gg ∧ i = .int .i64 k ∧ (ts.take k).all addT = true ∧ Below w.heap.size w wr)
  case atStart => exact ⟨0, Nat.zero_le _, by omega, rfl, by simp, Below.refl _ _⟩
  case round =>
    obtain ⟨k, hk, hgg, rfl, hall, hB⟩ := hrel
    have HAl := Lib.hid hall
    have HB := Lib.hid hB
    clear hall hB
    by_cases hlt : k < n
    · have d1 : decide ((k : Int) < (n : Int)) = true := by simpa using hlt
      obtain ⟨x, hx⟩ : ∃ x, ts[k]? = some x := ⟨_, List.getElem?_eq_getElem (by have := HN.out; omega)⟩
      obtain ⟨b, off, rfl, hrow⟩ := HP.out k hlt
      obtain ⟨c0, c1, c2, c3, c4, c5, c6, c7, c8⟩ := (hrow.below HB.out).nine hx
      have i0 : (0 : Int) ≤ (k : Int) := by omega
      have i1 : (k : Int) < (n : Int) := by omega
      have hfx := HFt.out x (List.mem_of_getElem? hx)
      have hB1 : Below w.heap.size w (wr.alloc (.cells (nineC x.1 x.2.1 x.2.2) 51)) := below_next HB.out (below_lex _ _)
      obtain ⟨m, hm⟩ := (HE.out.below hB1).len
      have HM := Lib.hid (mayAdd_any x.1 x.2.1 x.2.2 hfx.1 hfx.2.1 hfx.2.2 m _ hm)
      have HB1 := Lib.hid hB1
      have HX := Lib.hid hx
      clear hrow hfx hB1 hm hx
      cases hadd : addT x with
      | false =>
        have HRx : Hid (R = (⟨#[]⟩, 2)) := Lib.hid (by
          rw [HR.out]
          unfold textR
          rw [if_neg]
          intro h
          rw [List.all_eq_true] at h
          have := h x (List.mem_of_getElem? HX.out)
          rw [hadd] at this
          cases this)
        rw [show addD x.1 x.2.1 x.2.2 = false from hadd] at HM
        clear hadd
        go_wp2_with (go_at_call 42; refine HM.out.mono ?_; rintro e y ⟨rfl, hY⟩)
        go_ret2
        rw [HRx.out]
        exact ⟨rfl, HB1.out.trans (hY.mono HB1.out.size)⟩
      | true =>
        rw [show addD x.1 x.2.1 x.2.2 = true from hadd] at HM
        have HAl2 : Hid ((ts.take (k + 1)).all addT = true) := Lib.hid (by rw [take_snoc HX.out, List.all_append, HAl.out]; simp [hadd])
        clear hadd
        go_wp2_with (go_at_call 42; refine HM.out.mono ?_; rintro e y ⟨rfl, hY⟩)
        go_roundg (n - (k + 1))
        case measure => omega
        case rel => exact ⟨k + 1, by omega, Nat.le_refl _, by go_num, HAl2.out, HB1.out.trans (hY.mono HB1.out.size)⟩
    · obtain rfl : k = n := by omega
      have d1 : decide ((k : Int) < (k : Int)) = false := by simp
      have HAll : Hid (ts.all addT = true) := Lib.hid (by have := HAl.out; rwa [HN.out, List.take_length] at this)
      clear HAl
      have hB0 := below_lex wr (.cells #[.pointer none, .slice none 0 0] 90)
      have hb0 : Bld wr.heap.size wr.heap.size [] (wr.alloc (.cells #[.pointer none, .slice none 0 0] 90)) :=
        .inl ⟨Nat.le_refl _, .slice none 0 0, World.alloc_heap_new wr (.cells #[.pointer none, .slice none 0 0] 90), World.ownsRowF_nil _ _ _ _, by simp [Value.ownBlock]⟩
      have hs0 : wr.heap.size < (wr.alloc (.cells #[.pointer none, .slice none 0 0] 90)).heap.size := by simp
      have hwb : w.heap.size ≤ wr.heap.size := HB.out.size
      obtain ⟨W0, hW0⟩ : ∃ W0, W0 = wr.alloc (.cells #[.pointer none, .slice none 0 0] 90) := ⟨_, rfl⟩
      rw [← hW0] at hB0 hb0 hs0
      have HW0 := Lib.hid hW0
      have HB0 := Lib.hid (HB.out.trans (hB0.mono hwb))
      have Hb0 := Lib.hid hb0
      clear hW0 hB0 hb0 HB
      go_upto_region 8 with fail
      rw [← HW0.out]
      generalize wr.heap.size = bp at *
      clear HW0
      go_wp2_with fail
      go_loopg [23] k (fun gg i wq => ∃ j : Nat, j ≤ k ∧ k - j ≤ gg ∧ i = .int .i64 j ∧ Below w.heap.size w wq ∧ bp < wq.heap.size ∧ Bld bp bp (Lib.byteCells (u8s (textsL (ts.take j)))) wq ∧ (textsL (ts.take j)).length ≤ 1048576)
      case atStart => exact ⟨0, Nat.zero_le _, by omega, rfl, HB0.out, hs0, Hb0.out, by simp [textsL]⟩
      case round =>
        obtain ⟨j, hj, hgg2, rfl, hBq, hsq, hbq, hlq⟩ := hrel
        have HBq := Lib.hid hBq
        have Hbq := Lib.hid hbq
        clear hBq hbq HB0 Hb0 hs0
        by_cases hlt : j < k
        · have d2 : decide ((j : Int) < (k : Int)) = true := by simpa using hlt
          obtain ⟨x, hx⟩ : ∃ x, ts[j]? = some x := ⟨_, List.getElem?_eq_getElem (by have := HN.out; omega)⟩
          obtain ⟨b, off, rfl, hrow⟩ := HP.out j hlt
          obtain ⟨c0, c1, c2, c3, c4, c5, c6, c7, c8⟩ := (hrow.below HBq.out).nine hx
          have i0 : (0 : Int) ≤ (j : Int) := by omega
          have i1 : (j : Int) < (k : Int) := by omega
          have hfx := HFt.out x (List.mem_of_getElem? hx)
          have hadd : addT x = true := List.all_eq_true.1 HAll.out x (List.mem_of_getElem? hx)
          have hmay := add_may hadd
          have hln := line_len hadd
          have hl1 : (lineT x).length = (tripleL x.1 x.2.1 x.2.2).length + 1 := by unfold lineT; simp
          have hnx : textsL (ts.take (j + 1)) = textsL (ts.take j) ++ lineT x := by rw [take_snoc hx, textsL_snoc]
          have hBx := below_lex wr (.cells (nineC x.1 x.2.1 x.2.2) 51)
          have hB1 : Below w.heap.size w (wr.alloc (.cells (nineC x.1 x.2.1 x.2.2) 51)) := below_next HBq.out hBx
          have hb1 := bld_below Hbq.out hBx
          have hs1 : bp < (wr.alloc (.cells (nineC x.1 x.2.1 x.2.2) 51)).heap.size := by simp; omega
          obtain ⟨m, hm⟩ := (HE.out.below hB1).len
          have hTT := tripleText_any x.1 x.2.1 x.2.2 hfx.1 hfx.2.1 hfx.2.2 m _ hm
          rw [hmay] at hTT
          simp only [if_true] at hTT
          have HTT := Lib.hid hTT
          have HB1 := Lib.hid hB1
          have Hb1 := Lib.hid hb1
          have HX := Lib.hid hx
          have HNx := Lib.hid hnx
          have HCu := Lib.hid (cells_u8s (tripleL x.1 x.2.1 x.2.2))
          have HSu := Lib.hid (strOfNums_size (tripleL x.1 x.2.1 x.2.2))
          have HLx : Hid (lineT x = tripleL x.1 x.2.1 x.2.2 ++ [10]) := Lib.hid rfl
          clear hrow hfx hB1 hm hx hTT hb1 hBx hmay hadd hnx
          generalize tripleL x.1 x.2.1 x.2.2 = TL at *
          have hsz : (strOfNums TL).size ≤ 100000 := by have := HSu.out; omega
          have hbl : (Lib.byteCells (u8s (textsL (ts.take j)))).length ≤ 1048576 := by rw [Lib.byteCells_length]; unfold u8s; rw [List.length_map]; exact hlq
          have hbl1 : (Lib.byteCells (u8s (textsL (ts.take j) ++ TL))).length ≤ 1200000 := by rw [Lib.byteCells_length]; unfold u8s; rw [List.length_map, List.length_append]; omega
          go_upto_region 12 with (go_at_call 43; refine HTT.out.mono ?_; rintro e y ⟨rfl, hY⟩)
          have HBy := Lib.hid (HB1.out.trans (hY.mono HB1.out.size))
          have Hby := Lib.hid (bld_below Hb1.out hY)
          have hsy : bp < y.heap.size := by have := hY.size; omega
          clear hY HTT HB1 Hb1 c0 c1 c2 c3 c4 c5 c6 c7 c8
          go_upto_region 15 with (go_at_call 44; refine (writeString_any bp bp _ _ _ Hby.out (by omega) (Nat.le_of_lt hsy)).mono ?_; rintro e y1 ⟨rfl, hb2, hw2⟩)
          have Hb2 : Hid (Bld bp bp (Lib.byteCells (u8s (textsL (ts.take j) ++ TL))) y1) := Lib.hid (.inr (by rw [HCu.out] at hb2; rw [u8s_append, Lib.byteCells_append]; exact hb2))
          have HB2 := Lib.hid (HBy.out.trans (hw2.1.mono hwb))
          have hs2 : bp < y1.heap.size := Nat.lt_of_lt_of_le hsy hw2.1.size
          clear hb2 hw2 Hby HBy
          go_upto_region 16 with (go_at_call 45; refine (writeByte_any bp bp _ 10 _ Hb2.out (by omega) (Nat.le_of_lt hs2)).mono ?_; rintro e y2 ⟨rfl, hb3, hw3⟩)
          have Hb3 : Hid (Bld bp bp (Lib.byteCells (u8s (textsL (ts.take (j + 1))))) y2) := Lib.hid (.inr (by rw [HNx.out, HLx.out, ← List.append_assoc, u8s_append, Lib.byteCells_append]; exact hb3))
          have HB3 := Lib.hid (HB2.out.trans (hw3.1.mono hwb))
          have hs3 : bp < y2.heap.size := Nat.lt_of_lt_of_le hs2 hw3.1.size
          have hlen3 : (Lib.byteCells (u8s (textsL (ts.take (j + 1))))).length = (textsL (ts.take (j + 1))).length := by rw [Lib.byteCells_length]; unfold u8s; rw [List.length_map]
          have HLn := Lib.hid (Tryz.Builder_Len_f bp bp _ y2 Hb3.out)
          rw [hlen3] at HLn
          clear hb3 hw3 Hb2 HB2 hlen3
          by_cases hlong : 1048576 < (textsL (ts.take (j + 1))).length
          · have d3 : decide ((1048576 : Int) < ((textsL (ts.take (j + 1))).length : Int)) = true := by simp; omega
            have HRx : Hid (R = (⟨#[]⟩, 3)) := Lib.hid (by
              rw [HR.out]
              unfold textR
              rw [if_pos HAll.out, if_pos]
              have e : textsL ts = textsL (ts.take (j + 1)) ++ textsL (ts.drop (j + 1)) := by
                unfold textsL
                rw [← List.flatMap_append, List.take_append_drop]
              rw [e, List.length_append]
              omega)
            generalize (textsL (ts.take (j + 1))).length = LN at *
            go_wp2_with (go_at_call 46; refine HLn.out.mono ?_; rintro e y3 ⟨rfl, rfl⟩)
            go_ret2
            rw [HRx.out]
            exact ⟨rfl, HB3.out⟩
          · have d3 : decide ((1048576 : Int) < ((textsL (ts.take (j + 1))).length : Int)) = false := by simp; omega
            have hle : (textsL (ts.take (j + 1))).length ≤ 1048576 := by omega
            have HLe := Lib.hid hle
            clear hle hlong
            obtain ⟨LN, hLN⟩ : ∃ LN, LN = (textsL (ts.take (j + 1))).length := ⟨_, rfl⟩
            rw [← hLN] at HLn d3
            clear hLN
            go_wp2_with (go_at_call 46; refine HLn.out.mono ?_; rintro e y3 ⟨rfl, rfl⟩)
            go_roundg (k - (j + 1))
            case measure => omega
            case rel => exact ⟨j + 1, by omega, Nat.le_refl _, by go_num, HB3.out, hs3, Hb3.out, HLe.out⟩
        · obtain rfl : j = k := by omega
          have d2 : decide ((j : Int) < (j : Int)) = false := by simp
          have et : ts.take j = ts := by rw [HN.out, List.take_length]
          rw [et] at Hbq hlq
          have HRx : Hid (R = (strOfNums (textsL ts), 0)) := Lib.hid (by
            rw [HR.out]
            unfold textR
            rw [if_pos HAll.out, if_neg (by omega)])
          clear et
          go_wp2_with (go_at_call 47; refine (Tryz.Builder_String_any_k bp bp _ _ Hbq.out (Nat.le_of_lt hsq)).mono ?_; rintro e y ⟨rfl, _, hB4, _⟩)
          go_ret2
          rw [HRx.out]
          exact ⟨rfl, HBq.out.trans (hB4.mono hwb)⟩
end Go.Proofs.YtachijkjcbajmaaGreatDoor
/-
  THE CONTRACT OF THE REFERENCE's Text.
-/

namespace Go.Proofs.YtachijkjcbajmaaGreatDoor
open Go.RowKit
open Utf Term Lex
set_option linter.unusedVariables false
set_option linter.unusedSimpArgs false

def ShortT (t : TripD) : Prop := Short t.1 ∧ Short t.2.1 ∧ Short t.2.2
theorem cells_nums {l : List Int} (h : AllB l) : Lib.strCells (strOfNums l) = l.map (Value.int .u8) := by
  rw [cells_u8s]
  unfold Lib.byteCells u8s
  rw [List.map_map]
  apply List.map_congr_left
  intro c hc
  obtain ⟨h0, h1⟩ := h c hc
  simp only [Function.comp]
  congr 1
  rw [UInt8.toNat_ofNat']
  omega
theorem triple_byte (a b c : TermD) : AllB (tripleL a b c) := by
  have e : tripleL a b c = textL a.1 a.2.1 a.2.2 ++ 32 :: (textL b.1 b.2.1 b.2.2 ++ 32 :: (textL c.1 c.2.1 c.2.2 ++ [32, 46])) := rfl
  rw [e]
  exact (textL_byte _ _ _).app (.cons (by decide) ((textL_byte _ _ _).app (.cons (by decide) ((textL_byte _ _ _).app (.cons (by decide) (.cons (by decide) .nil))))))
theorem texts_len {ts : List TripD} (h : ts.all addT = true) : (textsL ts).length ≤ 100000 * ts.length := by
  induction ts with
  | nil => simp [textsL]
  | cons t ts ih =>
    rw [List.all_cons, Bool.and_eq_true] at h
    have := ih h.2
    have := line_len h.1
    have e : textsL (t :: ts) = lineT t ++ textsL ts := rfl
    rw [e, List.length_append, List.length_cons]
    omega

set_option maxRecDepth 100000 in
set_option maxHeartbeats 8000000 in
theorem refNtText_any (v : Value) (ts : List TripD) (hn : ts.length ≤ 1000) (hf : ∀ t ∈ ts, ShortT t) (w : World) (hv : SliceT w v ts) :
    Calls Tryz.prog 26 #[v] w fun e w' => e = .returned (.tuple #[.string (textR ts).1, .int .i64 (textR ts).2]) ∧ Below w.heap.size w w' := by
  obtain ⟨i0, hi, hz0, hz1, hz2⟩ := info_parts info_byte
  obtain ⟨p, cap, rfl, hp⟩ : ∃ p cap, v = .slice p ts.length cap ∧ ∀ k, k < ts.length → ∃ b off, p = some ⟨b, off, none⟩ ∧ RowC w b off (cellsT ts) := by
    rcases hv with ⟨rfl, rfl⟩ | ⟨b, off, cap, rfl, h1, h2, hr⟩
    · exact ⟨_, _, rfl, fun k h => absurd h (by simp)⟩
    · exact ⟨_, _, rfl, fun k h => ⟨b, off, rfl, hr⟩⟩
  have HP := Lib.hid hp
  have HFt := Lib.hid hf
  obtain ⟨n, hnn⟩ : ∃ n, n = ts.length := ⟨_, rfl⟩
  have HN := Lib.hid hnn
  rw [← hnn] at HP hn ⊢
  obtain ⟨R, hR⟩ : ∃ R, R = textR ts := ⟨_, rfl⟩
  rw [← hR]
  have HR := Lib.hid hR
  clear hp hf hnn hv hR
  go_enter Tryz.func26, Tryz.ntmps26
  go_wp2_with fail
  go_loopg [4, 5] n (fun gg u i wr => ∃ (k : Nat) (vo : Value), vo = u ∧ k ≤ n ∧ n - k ≤ gg ∧ i = .int .i64 k ∧ (ts.take k).all addT = true ∧ Below w.heap.size w wr ∧ wr.ownsRow w.heap.size 5 1 vo (textsL (ts.take k)).length ((textsL (ts.take k)).map (Value.int .u8)))
  case atStart => exact ⟨0, _, rfl, Nat.zero_le _, by omega, rfl, by simp, Below.refl _ _, World.ownsRow_nil _ _ _ _⟩
  case round =>
    obtain ⟨k, vo, rfl, hk, hgg, rfl, hall, hB, ho⟩ := hrel
    have HAl := Lib.hid hall
    have HB := Lib.hid hB
    have HO := Lib.hid ho
    have hwb := hB.size
    clear hall hB ho
    by_cases hlt : k < n
    · have d1 : decide ((k : Int) < (n : Int)) = true := by simpa using hlt
      obtain ⟨x, hx⟩ : ∃ x, ts[k]? = some x := ⟨_, List.getElem?_eq_getElem (by have := HN.out; omega)⟩
      obtain ⟨b, off, rfl, hrow⟩ := HP.out k hlt
      obtain ⟨c0, c1, c2, c3, c4, c5, c6, c7, c8⟩ := (hrow.below HB.out).nine hx
      have i0' : (0 : Int) ≤ (k : Int) := by omega
      have i1' : (k : Int) < (n : Int) := by omega
      have hfx := HFt.out x (List.mem_of_getElem? hx)
      have HM := Lib.hid (refAdd_any x.1 x.2.1 x.2.2 hfx.1 hfx.2.1 hfx.2.2 wr)
      have HX := Lib.hid hx
      have HRo := Lib.hid hrow
      clear hrow
      cases hadd : addT x with
      | false =>
        have HRx : Hid (R = (⟨#[]⟩, 2)) := Lib.hid (by
          rw [HR.out]
          unfold textR
          rw [if_neg]
          intro h
          rw [List.all_eq_true] at h
          have := h x (List.mem_of_getElem? HX.out)
          rw [hadd] at this
          cases this)
        rw [show addD x.1 x.2.1 x.2.2 = false from hadd] at HM
        clear hadd hfx hx
        go_wp2_with (go_at_call 41; refine HM.out.mono ?_; rintro e y ⟨rfl, hY⟩)
        go_ret2
        rw [HRx.out]
        exact ⟨rfl, HB.out.trans (hY.mono HB.out.size)⟩
      | true =>
        rw [show addD x.1 x.2.1 x.2.2 = true from hadd] at HM
        have hmay := add_may hadd
        simp only [Bool.and_eq_true] at hmay
        have hln := line_len hadd
        have hl1 : (lineT x).length = (tripleL x.1 x.2.1 x.2.2).length + 1 := by unfold lineT; simp
        have HAl2 : Hid ((ts.take (k + 1)).all addT = true) := Lib.hid (by rw [take_snoc hx, List.all_append, HAl.out]; simp [hadd])
        have HNx := Lib.hid (show textsL (ts.take (k + 1)) = textsL (ts.take k) ++ lineT x by rw [take_snoc hx, textsL_snoc])
        have hlen := texts_len HAl.out
        rw [List.length_take] at hlen
        have hlen2 : (textsL (ts.take k)).length ≤ 100000000 := by omega
        have HTT := Lib.hid (fun W => refTripleText_any x.1 x.2.1 x.2.2 hfx.1 hfx.2.1 hfx.2.2 hmay.1.1 hmay.1.2 hmay.2 W)
        have HCs := Lib.hid (cells_nums (triple_byte x.1 x.2.1 x.2.2))
        have HSu := Lib.hid (strOfNums_size (tripleL x.1 x.2.1 x.2.2))
        have HLx : Hid (lineT x = tripleL x.1 x.2.1 x.2.2 ++ [10]) := Lib.hid rfl
        clear hadd hfx hx hmay hlen
        generalize tripleL x.1 x.2.1 x.2.2 = TL at *
        have hsz : (strOfNums TL).size ≤ 100000 := by have := HSu.out; omega
        go_upto_region 7 with (go_at_call 41; refine HM.out.mono ?_; rintro e y ⟨rfl, hY⟩)
        obtain ⟨c0, c1, c2, c3, c4, c5, c6, c7, c8⟩ := (HRo.out.below (HB.out.trans (hY.mono HB.out.size))).nine HX.out
        have HBy := Lib.hid (HB.out.trans (hY.mono HB.out.size))
        have HOy := Lib.hid (own_slice_below HO.out hY)
        have hwy : w.heap.size ≤ y.heap.size := by have := hY.size; omega
        clear hY HM HO HB
        go_wp2_with (first
          | (at_builtin; refine wpList_append_own _ rfl _ _ 88 rfl w.heap.size 5 i0 (.int .u8 0) 1 1 Tryz.underlying88 hi hz0 hz1 hz2 rfl (by decide) _ _ _ rfl (hown1.alloc _) ⟨y2.heap.size, 0, none⟩ 1 1 [.int .u8 10] rfl rfl (cells_new y2 #[.int .u8 10] 5 [.int .u8 10] (fun j u h => by simpa using h)) (by intro u hu; simp at hu; rcases hu with rfl <;> rfl) (by unfold maxLen; omega) (by omega) (by simp; omega) ?_; intro v2 w2 hown2 hgrow2 _)
          | (at_builtin; refine Lib.wpList_append_own_string _ rfl _ _ 88 9 rfl w.heap.size 5 i0 Tryz.underlying88 Tryz.underlying9 hi hz0 hz1 hz2 _ _ _ rfl HOz (strOfNums TL) rfl (by unfold maxLen; omega) (by omega) hwz ?_; intro v1 y2 hown1 hgrow1 _; have hwy2 : w.heap.size ≤ y2.heap.size := by have := hgrow1.size; omega)
          | (go_at_call 27; refine (HTT.out _).mono ?_; rintro e z ⟨rfl, hZ⟩; have HOz := own_slice_below HOy.out hZ; have HBz := HBy.out.trans (hZ.mono HBy.out.size); have hwz : w.heap.size ≤ z.heap.size := by have := hZ.size; omega))
        have hB2 : Below w.heap.size w w2 := ((HBz.grown hgrow1 hwz (fun q hq => (HOz.lt q hq).1)).alloc hwy2 _).grown hgrow2 (by simp; omega) (fun q hq => (hown1.lt q hq).1)
        have hfin : w2.ownsRow w.heap.size 5 1 v2 (textsL (ts.take (k + 1))).length ((textsL (ts.take (k + 1))).map (Value.int .u8)) := by
          have e1 : (textsL (ts.take (k + 1))).length = (textsL (ts.take k)).length + (strOfNums TL).size + 1 := by
            rw [HNx.out, List.length_append, hl1, HSu.out]
            omega
          have e2 : (textsL (ts.take (k + 1))).map (Value.int .u8) = (textsL (ts.take k)).map (Value.int .u8) ++ Lib.strCells (strOfNums TL) ++ [.int .u8 10] := by
            rw [HNx.out, HLx.out, List.map_append, List.map_append, HCs.out, List.append_assoc]
            rfl
          rw [e1, e2]
          exact hown2
        go_roundg (n - (k + 1))
        case measure => omega
        case rel => exact ⟨k + 1, _, rfl, by omega, Nat.le_refl _, by go_num, HAl2.out, hB2, hfin⟩
    · obtain rfl : k = n := by omega
      have d1 : decide ((k : Int) < (k : Int)) = false := by simp
      have et : ts.take k = ts := by rw [HN.out, List.take_length]
      rw [et] at HAl HO
      have hlen := texts_len HAl.out
      clear et
      by_cases hlong : 1048576 < (textsL ts).length
      · have HRx : Hid (R = (⟨#[]⟩, 3)) := Lib.hid (by
          rw [HR.out]
          unfold textR
          rw [if_pos HAl.out, if_pos hlong])
        obtain ⟨g, c, rfl, _⟩ := owns_some HO.out (by omega)
        have d3 : decide ((1048576 : Int) < ((textsL ts).length : Int)) = true := by simp; omega
        generalize (textsL ts).length = LN at *
        go_wp2_with fail
        go_ret2
        rw [HRx.out]
        exact ⟨rfl, HB.out⟩
      · have HRx : Hid (R = (strOfNums (textsL ts), 0)) := Lib.hid (by
          rw [HR.out]
          unfold textR
          rw [if_pos HAl.out, if_neg hlong])
        have d3 : decide ((1048576 : Int) < ((textsL ts).length : Int)) = false := by simp; omega
        by_cases h0 : 0 < (textsL ts).length
        · obtain ⟨g, c, rfl, hg, hgl, hx, hcell⟩ := owns_some HO.out h0
          have hconv := owns_string (cap := c) (w' := wr) hx hcell hgl (Below.refl _ _)
          have HCv := Lib.hid hconv
          clear hconv hcell hx hlong hlen
          generalize strOfNums (textsL ts) = T at *
          generalize (textsL ts).length = LN at *
          have hconv := HCv.out
          go_wp2_with fail
          go_ret2
          rw [HRx.out]
          exact ⟨rfl, HB.out⟩
        · have e0 : textsL ts = [] := List.eq_nil_of_length_eq_zero (by omega)
          rw [e0] at HO HRx
          have e1 : textsL ([] : List TripD) = [] := rfl
          rcases owns_forms HO.out with ⟨rfl, _⟩ | ⟨g, c, rfl, _⟩
          · clear d3 hlong hlen
            have hconv := run_convert_bytes_nil (P := Tryz.prog) wr 88 5 Tryz.underlying88 Tryz.underlying5 0 0 9 Tryz.underlying9
            go_wp2_with fail
            go_ret2
            rw [HRx.out]
            exact ⟨rfl, HB.out⟩
          · clear d3 hlong hlen
            have hconv := run_convert_bytes_arg (P := Tryz.prog) wr 88 5 Tryz.underlying88 Tryz.underlying5 g 0 0 c [] rfl (fun i hi => by omega) 9 Tryz.underlying9
            go_wp2_with fail
            go_ret2
            rw [HRx.out]
            exact ⟨rfl, HB.out⟩
end Go.Proofs.YtachijkjcbajmaaGreatDoor
/-
  THE CONTRACT OF the law's known.
-/

namespace Go.Proofs.YtachijkjcbajmaaGreatDoor
open Go.RowKit
open Utf Term Lex
set_option linter.unusedVariables false
set_option linter.unusedSimpArgs false

theorem doc_a : docS ⟨#[60, 97, 62, 32, 60, 98, 62, 32, 34, 99, 34, 32, 46, 32, 35, 32, 100]⟩ = .good [((1, ⟨#[97]⟩, ⟨#[]⟩), (1, ⟨#[98]⟩, ⟨#[]⟩), (3, ⟨#[99]⟩, ⟨#[]⟩))] := by kernel_rfl
theorem doc_b : docS ⟨#[60, 97, 62, 32, 34, 98, 34, 32, 60, 99, 62, 32, 46]⟩ = .bad 0 4 := by kernel_rfl
theorem num5_any (n : Int) (w : World) : Calls Tryz.prog 23 #[.int .i64 n] w fun e w' => e = .returned (.int .i64 n) ∧ w = w' := by
  go_enter Tryz.func23, Tryz.ntmps23
  go_wp2
  go_ret
  exact ⟨rfl, rfl⟩
theorem plain_c (w : World) : (binOp .eql 31 (.agg #[.int .i64 3, .string ⟨#[99]⟩, .string ⟨#[]⟩]) (.agg #[.int .i64 3, .string ⟨#[99]⟩, .string ⟨#[]⟩])).run Tryz.prog w = .ok (.bool true) w := by
  kernel_rfl

set_option maxRecDepth 100000 in
set_option maxHeartbeats 8000000 in
theorem known5_any (w : World) (hv : LexEnv w) (hrp : Hrp w.heap.size) : Calls Tryz.prog 18 #[] w fun e w' => e = .returned (.bool true) ∧ Below w.heap.size w w' := by
  have HA := ntParse_any ⟨#[60, 97, 62, 32, 60, 98, 62, 32, 34, 99, 34, 32, 46, 32, 35, 32, 100]⟩ (by decide) w hv hrp
  rw [doc_a] at HA
  have HA := Lib.hid HA
  have HC : Hid (∀ W, Below w.heap.size w W → Calls Tryz.prog 19 #[.string ⟨#[60, 97, 62, 32, 34, 98, 34, 32, 60, 99, 62, 32, 46]⟩] W fun e w' => e = .returned (.tuple #[.slice none 0 0, .int .i64 0, .int .i64 4]) ∧ Below W.heap.size W w') := Lib.hid (fun W hW => by
    have := ntParse_any ⟨#[60, 97, 62, 32, 34, 98, 34, 32, 60, 99, 62, 32, 46]⟩ (by decide) W (hv.below hW) (hrp.le hW.size)
    rw [doc_b] at this
    exact this.mono fun e w' h => ⟨h.2, h.1⟩)
  have PC := plain_c
  clear hv hrp
  go_enter Tryz.func18, Tryz.ntmps18
  go_upto_region 2 with (go_at_call 19; refine HA.out.mono ?_; rintro e y ⟨hY, v, rfl, ho⟩)
  rcases owns_slice ho with ⟨_, h⟩ | ⟨g, o, cap, rfl, h1, h2, hrow⟩
  · cases h
  have HCy := Lib.hid (HC.out y hY)
  have HR := Lib.hid hrow
  have HY := Lib.hid hY
  clear ho hY hrow HA HC
  go_upto_region 3 with (go_at_call 19; refine HCy.out.mono ?_; rintro e y2 ⟨rfl, hY2⟩)
  have n2 := (HR.out.below hY2).nine (p := 0) rfl
  obtain ⟨c0, c1, c2, c3, c4, c5, c6, c7, c8⟩ := n2
  simp only [Nat.zero_mul, Nat.add_zero] at c0 c1 c2 c3 c4 c5 c6 c7 c8
  have HB := Lib.hid (HY.out.trans (hY2.mono HY.out.size))
  clear hY2 c0 c1 c2 c3 c4 c5 HCy
  simp only [List.length_singleton] at *
  go_wp2_with (go_at_call 23; refine (num5_any _ _).mono ?_; rintro e z ⟨rfl, rfl⟩)
  go_ret
  exact ⟨rfl, HB.out⟩
end Go.Proofs.YtachijkjcbajmaaGreatDoor
/-
  THE WALK OF TripleWrites.
-/

namespace Go.Proofs.YtachijkjcbajmaaGreatDoor
open Go.RowKit
open Utf Term Lex
set_option linter.unusedVariables false
set_option linter.unusedSimpArgs false

def SmallT (t : TripD) : Prop := Small t.1 ∧ Small t.2.1 ∧ Small t.2.2
theorem SmallT.short {t : TripD} (h : SmallT t) : ShortT t := by
  obtain ⟨⟨h1, h2⟩, ⟨h3, h4⟩, h5, h6⟩ := h
  exact ⟨⟨by omega, by omega⟩, ⟨by omega, by omega⟩, ⟨by omega, by omega⟩⟩
theorem SmallT.fits {t : TripD} (h : SmallT t) : FitsT t := by
  obtain ⟨⟨h1, h2⟩, ⟨h3, h4⟩, h5, h6⟩ := h
  exact ⟨⟨by omega, by omega⟩, ⟨by omega, by omega⟩, ⟨by omega, by omega⟩⟩
theorem much_nt (v : Value) (ds : List TripD) (most : Nat) (hm : most ≤ 1000000) (w : World) (hv : SliceT w v ds) :
    Calls Tryz.prog 24 #[v, .int .i64 most] w fun e w' => ∃ r, e = .returned (.bool r) ∧ (r = false → ds.length ≤ most ∧ ∀ t ∈ ds, SmallT t) ∧ Below w.heap.size w w' := by
  rcases hv with ⟨rfl, rfl⟩ | ⟨b, off, cap, rfl, h1, h2, hr⟩
  · exact (much_nil most hm w).mono fun e w' ⟨he, hB⟩ => ⟨false, he, fun _ => ⟨Nat.zero_le _, by simp⟩, hB⟩
  · refine (much_any b off ds.length cap most (termsT ds) (termsT_length ds) (by unfold maxLen at h2; omega) hm w (rowT_of hr)).mono ?_
    rintro e w' ⟨r, he, hB, hf⟩
    refine ⟨r, he, fun h => ?_, hB⟩
    obtain ⟨g1, g2⟩ := hf h
    rw [termsT_length] at g1
    refine ⟨by omega, fun t ht => ?_⟩
    have hmem : ∀ q, q = t.1 ∨ q = t.2.1 ∨ q = t.2.2 → q ∈ termsT ds := fun q hq => by
      refine List.mem_flatMap.2 ⟨t, ht, ?_⟩
      simp only [List.mem_cons, List.not_mem_nil, or_false]
      exact hq
    exact ⟨g2 _ (hmem _ (.inl rfl)), g2 _ (hmem _ (.inr (.inl rfl))), g2 _ (hmem _ (.inr (.inr rfl)))⟩

set_option maxRecDepth 100000 in
set_option maxHeartbeats 8000000 in
theorem tripleWrites_walk (v : Value) (ds : List TripD) (w : World) (hv : SliceT w v ds) (he : LexEnv w) (hrp : Hrp w.heap.size) :
    Calls Tryz.prog 5 #[v] w fun e w' => e = .returned (.bool true) ∧ Below w.heap.size w w' := by
  have HM := Lib.hid (much_nt v ds 60 (by decide) w hv)
  have HV := Lib.hid hv
  have HE := Lib.hid he
  have HRp := Lib.hid hrp
  clear hv he hrp
  go_enter Tryz.func5, Tryz.ntmps5
  go_upto_if 8 with (go_at_call 24; refine HM.out.mono ?_; rintro e y ⟨r, rfl, hr, hY⟩)
  have HKn := Lib.hid (fun W (h : Below w.heap.size w W) => known5_any W (HE.out.below h) (HRp.out.le h.size))
  have HY := Lib.hid hY
  cases r with
  | true =>
    have HKy := Lib.hid (HKn.out y hY)
    clear hr hY HM
    go_wp2_with (go_at_call 18; refine HKy.out.mono ?_; rintro e z ⟨rfl, hZ⟩)
    go_ret
    exact ⟨rfl, HY.out.trans (hZ.mono HY.out.size)⟩
  | false =>
    obtain ⟨h60, hsm⟩ := hr rfl
    have HT := Lib.hid (ntText_any v ds (by omega) (fun t ht => (hsm t ht).fits) y (HV.out.below hY) (HE.out.below hY))
    have HRf := Lib.hid (fun W (h : Below w.heap.size w W) => refNtText_any v ds (by omega) (fun t ht => (hsm t ht).short) W (HV.out.below h))
    clear hY HM hsm hr
    obtain ⟨T, n⟩ := textR ds
    go_upto_region 4 with (go_at_call 25; refine HT.out.mono ?_; rintro e z ⟨rfl, hZ⟩)
    have HZ := Lib.hid (HY.out.trans (hZ.mono HY.out.size))
    have HRz := Lib.hid (HRf.out z HZ.out)
    clear hZ HT HRf
    go_upto_region 5 with (go_at_call 26; refine HRz.out.mono ?_; rintro e u ⟨rfl, hU⟩)
    have HU := Lib.hid (HZ.out.trans (hU.mono HZ.out.size))
    have HKu := Lib.hid (HKn.out u HU.out)
    clear hU HRz
    go_wp2_with (first | (go_at_call 23; refine (num5_any _ _).mono ?_; rintro e x ⟨rfl, rfl⟩) | (go_at_call 18; refine HKu.out.mono ?_; rintro e x ⟨rfl, hX⟩))
    go_ret
    exact ⟨rfl, HU.out.trans (hX.mono HU.out.size)⟩
end Go.Proofs.YtachijkjcbajmaaGreatDoor
