/-
  THE CONTRACT OF quoted, of a text that is well made.
-/
import Derived.Test.YtjpppfcbhkbbpaaDoorTermQuote
import Derived.Test.YtjpppfcbhkbbpaaDoorTermParts
import Derived.Test.YtjpppfcbhkbbpaaDoorRangeNext
import Derived.Test.YtjpppfcbhkbbpaaDoorBuilder
namespace Go.Proofs.YtjpppfcbhkbbpaaDoor
open Go.RowKit Go.Shelf
open Utf Term
set_option linter.unusedVariables false
attribute [local go_sem] Oper.semAt_some

theorem runes_next (n : Nat) (hn : 1 ≤ n) (Bs : Nat) (s : ByteArray) (hs : s.size ≤ 1000000000000) (w : World) (hBs : w.heap[Bs]? = some (.cells #[.string s] 9 (0, 0))) :
    SeqNext Fence.wide n Tryd.prog 93 #[.pointer (some ⟨Bs, 0, none⟩)] runeVals (KeepsBlock Bs) (fun pre x => pre ++ [x] <+: allR (bs s)) (fun ys => ys = allR (bs s)) w :=
  fun l J W hW _ hY h0 => (iter_in n hn l Bs s hs J (fun _ _ => False) (fun pre x W' hJ hp => (hY pre x W' hJ hp).mono fun e w' h => .inl h) W ((hW.block Bs (lt_of_block hBs)).trans hBs) h0).mono
    fun e W' ⟨hv, h⟩ => ⟨hv, h.elim (fun ⟨ys, h1, h2⟩ => ⟨ys, h1, h2⟩) (fun ⟨_, _, h⟩ => h.elim)⟩

theorem bld_kept {B b : Nat} {L : List Value} {W W' : World} {row : Option Nat} (h : Bld B b L W) (hg : W.grownBy W' row) (hr : ∀ r, row = some r → ∃ o : Obj, W.heap[r]? = some o ∧ o.isCells = false) : Bld B b L W' := by
  have one : ∀ p, Lib.BuilderAtF 102 5 B b p L W → Lib.BuilderAtF 102 5 B b p L W' := by
    intro p ⟨hB, v, hb, hown, hne⟩
    have hnb : b < W.heap.size := (Array.getElem?_eq_some_iff.1 hb).1
    refine ⟨hB, v, (hg.block b hnb fun e => ?_).trans hb, hown.kept hg ?_, hne⟩
    · obtain ⟨o, ho, hc⟩ := hr b e.symm
      rw [hb] at ho
      cases ho
      cases hc
    · rcases hown.2 with ⟨rfl, _⟩ | ⟨g, cap, cur, fz, rfl, _, hg2, _⟩
      · exact .inl rfl
      · right
        intro e
        obtain ⟨o, ho, hc⟩ := hr g e.symm
        rw [hg2] at ho
        cases ho
        cases hc
  exact h.imp (one _) (one _)

theorem bld_cells {B b : Nat} {L : List Value} {W : World} (h : Bld B b L W) : ∃ c f, W.heap[b]? = some (.cells c 102 f) := by
  rcases h with ⟨_, v, hb, _⟩ | ⟨_, v, hb, _⟩
  · exact ⟨_, _, hb⟩
  · exact ⟨_, _, hb⟩
theorem Wrote.keeps {B b : Nat} {L : List Value} {W W' : World} (h : Wrote B b W W') (hL : Bld B b L W) (X : Nat) : KeepsFrom X W W' :=
  ⟨h.1.size, fun k o _ hk ho => by
    by_cases hb : k = b
    · obtain ⟨c, f, hc⟩ := bld_cells hL
      rw [hb, hc] at hk
      cases hk
      cases ho
    · exact h.2 k o hk (by simpa using hb) (by rintro c fz rfl; cases ho)⟩
theorem Wrote.boxed {B b d t : Nat} {v : Value} {W W' : World} (h : Wrote B b W W') (hd : d ≠ b) (ht : t ≠ 5) (hb : Boxed W d t v) : Boxed W' d t v :=
  h.2 d _ hb (by simpa using hd) (by rintro c fz e; injection e with _ e2 _; exact ht e2)

/-- A list of bytes as numbers. -/
def nb (l : List UInt8) : List Int := l.map fun c => (c.toNat : Int)
theorem nb_append (a b : List UInt8) : nb (a ++ b) = nb a ++ nb b := by simp [nb]
theorem nb_length (a : List UInt8) : (nb a).length = a.length := by simp [nb]
theorem bs_data (s : ByteArray) : bs s = nb s.data.toList := rfl

theorem wrote_drewN {B b n : Nat} {W W' : World} (h : Wrote B b (W.drewN n) W') : Wrote B b W W' := ⟨(below_drewN B W n).trans h.1, h.2⟩
theorem bld_set {B b d t : Nat} {v : Value} {L : List Value} {W : World} (h : Bld B b L W) (hd : Boxed W d t v) (hne : d ≠ b) (ht : t ≠ 5) (u : Value) : Bld B b L (W.setCell ⟨d, 0, none⟩ u) := by
  have one : ∀ p, Lib.BuilderAtF 102 5 B b p L W → Lib.BuilderAtF 102 5 B b p L (W.setCell ⟨d, 0, none⟩ u) := by
    intro p ⟨hB, v', hb, hown, hnb⟩
    have hg := grownBy_setCell' W d u
    exact ⟨hB, v', (hg.block b (Array.getElem?_eq_some_iff.1 hb).1 (by simpa using fun e => hne e.symm)).trans hb, hown.kept hg (.inr (Lib.ownBlock_neF hown hd ht)), hnb⟩
  exact h.imp (one _) (one _)
theorem keeps_drewN (B : Nat) (W : World) (n : Nat) : KeepsFrom B W (W.drewN n) := ⟨Nat.le_refl _, fun _ _ _ h _ => h⟩
/-- Where the rounds stand. -/
def QI (s : ByteArray) (rs : List Int) (w0 : World) (b0 b d N : Nat) (pre : List RuneAt) (W : World) : Prop :=
  ∃ (ra rb : List Int) (done : Nat) (l : List UInt8), rs = ra ++ rb ∧ pre.map (·.1) = posR 0 ra ∧ Mid (bs s) ra done (nb l) ∧ Boxed W b0 9 (.string s) ∧ Boxed W d 3 (.int .i64 (done : Nat)) ∧ Bld b b (Lib.byteCells l) W ∧ Boxed W N 9 (.string s) ∧ Below w0.heap.size w0 W
theorem boxed_kept {W W' : World} {d t : Nat} {v : Value} {row : Option Nat} (h : Boxed W d t v) (hg : W.grownBy W' row) (hr : ∀ r, row = some r → ∃ o : Obj, W.heap[r]? = some o ∧ o.isCells = false) : Boxed W' d t v :=
  h.kept hg fun e => by
    obtain ⟨o, ho, hc⟩ := hr d e.symm
    rw [show W.heap[d]? = _ from h] at ho
    cases ho
    cases hc
theorem qi_own (s : ByteArray) (rs : List Int) (w0 : World) (b0 b d N X : Nat) (hX : w0.heap.size ≤ X) : OwnFrom X (QI s rs w0 b0 b d N) := by
  rintro pre W W' row ⟨ra, rb, done, l, h1, h2, h3, h4, h5, h6, h7, h8⟩ hg hr
  have hr' : ∀ r, row = some r → ∃ o : Obj, W.heap[r]? = some o ∧ o.isCells = false := fun r e => (hr r e).2
  exact ⟨ra, rb, done, l, h1, h2, h3, boxed_kept h4 hg hr', boxed_kept h5 hg hr', bld_kept h6 hg hr', boxed_kept h7 hg hr',
    h8.grown hg h8.size (fun k e => Nat.le_trans hX (hr k e).1)⟩

/-- The next rune. -/
theorem next_rune {s : ByteArray} {rs ra rb : List Int} {pre : List RuneAt} {x : RuneAt} (hrs : AllMay rs) (hv : bs s = encs rs) (hs : s.size ≤ 1000000000000) (h1 : rs = ra ++ rb) (h2 : pre.map (·.1) = posR 0 ra) (hn : pre ++ [x] <+: allR (bs s)) :
    ∃ rb', rs = ra ++ x.1.2 :: rb' ∧ x.1.1 = (encs ra).length := by
  have h3 : (pre ++ [x]).map (·.1) <+: (allR (bs s)).map (·.1) := hn.map _
  rw [hv, allR_encs hrs (by rw [← hv, bs_length]; exact hs), List.map_append, h2] at h3
  obtain ⟨rb', h4, h5⟩ := posR_next 0 ra rs x.1 hrs h3
  exact ⟨rb', h4, by omega⟩

set_option maxRecDepth 100000 in
set_option maxHeartbeats 4000000 in
theorem quoted_in (n : Nat) (hn : 5 ≤ n) (s : ByteArray) (hs : s.size ≤ 1000000000000) (rs : List Int) (hrs : AllMay rs) (hv : bs s = encs rs) (w : World) :
    CallsIn Fence.wide n Tryd.prog 54 #[.string s] w fun e W' => e = .returned (.string (strOfNums (quoteL (bs s)))) ∧ Below w.heap.size w W' := by
  have h1 : 1 ≤ n := by omega
  have HV := Lib.hid hv
  have HR := Lib.hid hrs
  clear hv hrs
  refine callsIn_of_wp_marks Tryd.func54 rfl trivial ?_ rfl
  simp only [Tryd.ntmps54, List.size_toArray, List.length_cons, List.length_nil, Nat.reduceAdd, Nat.reduceSub, Array.replicate_succ, Array.replicate_zero, List.push_toArray, List.append_toArray, List.nil_append, List.cons_append]
  have hB1 : Below w.heap.size w ((w.alloc (.cells #[.string s] 9)).alloc (.cells #[.pointer none, .slice none 0 0] 102)) := ((Below.refl _ w).alloc (Nat.le_refl _) _).alloc (by simp) _
  have q0 := (Boxed.new w 9 (.string s)).alloc (.cells #[.pointer none, .slice none 0 0] 102)
  have hb0 : Bld (w.heap.size + 1) (w.heap.size + 1) [] ((w.alloc (.cells #[.string s] 9)).alloc (.cells #[.pointer none, .slice none 0 0] 102)) :=
    .inl ⟨Nat.le_refl _, .slice none 0 0, by have := World.alloc_heap_new (w.alloc (.cells #[.string s] 9)) (.cells #[.pointer none, .slice none 0 0] 102); rwa [World.size_alloc] at this, World.ownsRowF_nil _ _ _ _, by simp [Value.ownBlock]⟩
  have C1 := Lib.hid (writeByte_any (w.heap.size + 1) (w.heap.size + 1) [] 34 _ hb0 (by simp) (by simp))
  gi_wp2_with (refine ⟨trivial, ?_⟩; gi_at_call 66; refine (callsIn_wide.2 C1.out).mono ?_; rintro e w1 ⟨rfl, hb1, hw1⟩; have q1 := hw1.boxed (by omega) (by decide) q0; have c1 := ((Boxed.alloc q1 (.cells #[.int .i64 0] 3))).cell)
  refine ⟨trivial, ?_⟩
  refine (runes_in Fence.wide (n - 1) trivial rfl _ _).mono ?_
  rintro e w' ⟨rfl, rfl⟩
  gi_wp2
  have hB2 : Below w.heap.size w w1 := hB1.trans (hw1.1.mono (by omega))
  have hs1 : w.heap.size + 1 < w1.heap.size := by have := hw1.1.size; simp at this; omega
  have bD := (Boxed.new w1 3 (.int .i64 0)).alloc (.cells #[.string s] 9)
  have bN := Boxed.new (w1.alloc (.cells #[.int .i64 0] 3)) 9 (.string s)
  rw [World.size_alloc] at bN
  refine wpIn_range_next rfl h1 (gf := 93) (lb := #[.pointer (some ⟨w1.heap.size + 1, 0, none⟩)]) rfl trivial (enters_of Tryd.func93 (by kernel_rfl) rfl)
    (runes_next (n - 1) (by omega) (w1.heap.size + 1) s hs _ bN) keeps_t (keeps_b (by simp)) (fun _ => rfl)
    (QI s rs w w.heap.size (w.heap.size + 1) w1.heap.size (w1.heap.size + 1)) (qi_own _ _ _ _ _ _ _ _ (by simp; omega))
    ⟨[], rs, 0, [34], rfl, rfl, mid_start _, (q1.alloc _).alloc _, bD, .inr ((hb1.alloc _).alloc _), bN, (hB2.alloc hB2.size _).alloc (by have := hB2.size; simp; omega) _⟩
    (fun x => { tmps := #[.string s, .pointer (some ⟨w.heap.size, 0, none⟩), .string ⟨#[]⟩, .pointer (some ⟨w.heap.size + 1, 0, none⟩), .pointer (some ⟨w1.heap.size, 0, none⟩), .int .i64 (x.1.1 : Int), .int .i64 x.1.2, undef, .nilIface, .string s, .func (.func 93) #[] #[.pointer (some ⟨w1.heap.size + 1, 0, none⟩)], .int .i64 (x.1.1 : Int), .int .i64 x.1.2, undef, undef, undef, undef, undef, undef, undef, undef, undef, undef, undef, undef, undef, undef, undef, undef, undef, undef, undef], defers := [] }) ?assign ?body ?done
  case assign =>
    intro l x W K hK
    gi_wp2
    exact hK
  case body =>
    rintro l pre x W ⟨ra, rb, done, bl, e1, e2, hmid, k0, kd, kb, hN, hB⟩ hnx
    have h2 : 1 ≤ n - 1 - 1 := by omega
    obtain ⟨rb', e3, e4⟩ := next_rune HR.out HV.out hs e1 e2 hnx
    have hx0 := x.2.1
    have hxm := x.2.2
    have CE := escape_any x.1.2 W hxm.1
    have hlen := mid_len hmid
    have hle : (encs ra).length + (enc x.1.2).length ≤ s.size := by
      have := congrArg List.length HV.out
      rw [bs_length, e3, encs_append, encs_cons, List.length_append, List.length_append] at this
      omega
    have hWs : w.heap.size + 1 < W.heap.size := by have := kd.lt; omega
    have c0 := k0.cell
    have cd := kd.cell
    have fd := kd.frozen
    have hpre2 : (pre ++ [x]).map (·.1) = posR 0 (ra ++ [x.1.2]) := by
      rw [List.map_append, e2]
      have : ∀ (p : Nat) (a : List Int) (r : Int), AllMay a → posR p (a ++ [r]) = posR p a ++ [(p + (encs a).length, r)] := by
        intro p a
        induction a generalizing p with
        | nil => intro r _; simp [posR, encs_nil]
        | cons q a ih =>
          intro r ha
          rw [List.cons_append, posR, posR, ih _ _ ha.tail, encs_cons, List.length_append, rsize_enc ha.head, Nat.add_assoc]
          rfl
      rw [this 0 ra x.1.2 (fun c hc => HR.out c (by rw [e3]; simp [hc]))]
      simp [← e4]
    have e5 : rs = (ra ++ [x.1.2]) ++ rb' := by rw [e3]; simp
    have H2 := Lib.hid e2
    have H3 := Lib.hid e3
    have H4 := Lib.hid e4
    have H5 := Lib.hid e5
    have HP := Lib.hid hpre2
    have HM := Lib.hid hmid
    have H1 := Lib.hid e1
    have HL := Lib.hid hlen
    clear e1 e2 e3 e4 e5 hpre2 hmid hlen
    have hL : bl.length ≤ 1 + 6 * s.size := by
      have h0 := HL.out
      rw [nb_length] at h0
      omega
    by_cases hesc : esc x.1.2 = []
    · rw [hesc] at CE
      have CE' : Calls Tryd.prog 68 #[.int .i64 x.1.2] W fun e w' => e = .returned (.string ⟨#[]⟩) ∧ ∃ n, w' = W.drewN n := CE
      have HE := Lib.hid hesc
      clear CE hesc
      gi_wp2_with (refine ⟨trivial, ?_⟩; gi_at_call 68; refine (CallsIn.inRound l (callsIn_wide.2 CE')).mono ?_; rintro e w2 ⟨rfl, nd, rfl⟩)
      exact ⟨keeps_drewN _ _ _, rfl, ra ++ [x.1.2], rb', done, bl, H5.out, HP.out, mid_keep (by rw [HV.out, H3.out]) hxm HE.out HM.out, k0, kd, kb, hN, hB.trans (below_drewN _ _ _)⟩
    · have hES : bs (strOfNums (esc x.1.2)) = esc x.1.2 := bs_strOfNums (by
        have hall : ∀ r : Fin 128, ∀ c ∈ esc (r.val : Nat), 0 ≤ c ∧ c ≤ 255 := by decide +kernel
        intro c hc
        obtain ⟨a, ha⟩ := Int.eq_ofNat_of_zero_le hxm.1
        have := esc_low hesc
        rw [ha] at hc
        exact hall ⟨a, by omega⟩ c hc)
      have hpos : 0 < (strOfNums (esc x.1.2)).size := by
        rw [← bs_length, hES]
        exact List.length_pos_iff.2 hesc
      have h6 := esc_length x.1.2
      have hsz6 : (strOfNums (esc x.1.2)).size ≤ 6 := by rw [← bs_length, hES]; exact h6
      have hne : (strOfNums (esc x.1.2)).toList.isEmpty = false := nonempty hpos
      generalize hEq : strOfNums (esc x.1.2) = ES at *
      have HE := Lib.hid hesc
      have HES := Lib.hid hES
      have hdi : done ≤ x.1.1 := by have := HM.out.1; have := H4.out; omega
      have hil : x.1.1 + 1 ≤ s.size := by
        have h7 := H4.out
        have h8 : 1 ≤ (enc x.1.2).length := List.length_pos_iff.2 (enc_ne _)
        omega
      have hsl : ∀ W, (Instr.slice 9 (.string s) (some (.int .i64 (done : Int))) (some (.int .i64 (x.1.1 : Int))) none).run Tryd.prog W = .ok (.string (s.extract done x.1.1)) W := by
        intro W
        rw [run_slice_string W 9 s .i64 .i64 (done : Int) (x.1.1 : Int) Tryd.underlying9 (by omega) (by omega) (by omega)]
        simp
      clear hesc hES hEq h6 hle
      gi_wp2_with (refine ⟨trivial, ?_⟩; gi_at_call 68; refine (CallsIn.inRound l (callsIn_wide.2 CE)).mono ?_; rintro e w2 ⟨rfl, nd, rfl⟩)
      refine ⟨trivial, ?_⟩
      have hbl : (Lib.byteCells bl).length = bl.length := Lib.byteCells_length _
      have hex : (s.extract done x.1.1).size ≤ s.size := by simp; omega
      refine (CallsIn.inRound l (callsIn_wide.2 (writeString_any (w.heap.size + 1) (w.heap.size + 1) (Lib.byteCells bl) (s.extract done x.1.1) (W.drewN nd) kb (by rw [hbl]; omega) (by show w.heap.size + 1 ≤ W.heap.size; omega)))).mono ?_
      rintro e w3 ⟨rfl, hb3, hw3⟩
      have j0 := hw3.boxed (by omega) (by decide) k0
      have jd := hw3.boxed (by omega) (by decide) kd
      have hw2 : Wrote (w.heap.size + 1) (w.heap.size + 1) W w3 := wrote_drewN hw3
      have cs2 : Lib.byteCells bl ++ Lib.strCells (s.extract done x.1.1) = Lib.byteCells (bl ++ (s.extract done x.1.1).data.toList) := (Lib.byteCells_append _ _).symm
      rw [cs2] at hb3
      clear c0 cd fd hw3 cs2
      have c0 := j0.cell
      have cd := jd.cell
      have fd := jd.frozen
      gi_wp2_with fail
      refine ⟨trivial, ?_⟩
      have hbl2 : (Lib.byteCells (bl ++ (s.extract done x.1.1).data.toList)).length ≤ 1 + 7 * s.size := by
        rw [Lib.byteCells_length, List.length_append]
        have : (s.extract done x.1.1).data.toList.length = (s.extract done x.1.1).size := rfl
        omega
      refine (CallsIn.inRound l (callsIn_wide.2 (writeString_any (w.heap.size + 1) (w.heap.size + 1) _ ES w3 (.inr hb3) (by omega) (by have := hw2.1.size; omega)))).mono ?_
      rintro e w4 ⟨rfl, hb4, hw4⟩
      have l0 := hw4.boxed (by omega) (by decide) j0
      have ld := hw4.boxed (by omega) (by decide) jd
      have hw5 := hw2.trans hw4
      have cs4 : Lib.byteCells (bl ++ (s.extract done x.1.1).data.toList) ++ Lib.strCells ES = Lib.byteCells (bl ++ (s.extract done x.1.1).data.toList ++ ES.data.toList) := (Lib.byteCells_append _ _).symm
      rw [cs4] at hb4
      clear c0 cd fd hw4 hw2 cs4
      have c0 := l0.cell
      have cd := ld.cell
      have fd := ld.frozen
      have jN := hw5.boxed (by omega) (by decide) hN
      gi_wp2
      refine ⟨(hw5.keeps kb _).trans ((KeepsOthers.setCell _ _ _).from _), ?_, ra ++ [x.1.2], rb', x.1.1 + 1, bl ++ (s.extract done x.1.1).data.toList ++ ES.data.toList, H5.out, HP.out, ?_, l0.other (by omega) _, ?_, bld_set (.inr hb4) ld (by omega) (by decide) _, jN.other (by omega) _, ?_⟩
      · show ((w4.setCell ⟨w1.heap.size, 0, none⟩ (.int .i64 (x.1.1 + 1))).heap[w1.heap.size + 1]?) = W.heap[w1.heap.size + 1]?
        rw [show W.heap[w1.heap.size + 1]? = _ from hN]
        exact jN.other (by omega) _
      · have hm := mid_esc HE.out HM.out
        rw [nb_append, nb_append, ← bs_data, ← bs_data, bs_extract, HES.out, H4.out]
        exact hm
      · exact ld.set _
      · exact (hB.trans (hw5.1.mono (by omega))).setCell (p := ⟨w1.heap.size, 0, none⟩) (by simp; omega) _
  case done =>
    rintro D ys W hD rfl ⟨ra, rb, done, bl, e1, e2, hmid, k0, kd, kb, hN, hB⟩ hK
    have hra : ra = rs := by
      have h := allR_encs HR.out (by rw [← HV.out, bs_length]; exact hs)
      rw [← HV.out, e2] at h
      rw [← posR_snd ra 0, ← posR_snd rs 0, h]
    subst hra
    have hle : done ≤ s.size := by
      have h0 := hmid.1
      rw [← HV.out, bs_length] at h0
      exact h0
    have hL : bl.length ≤ 1 + 6 * s.size := by
      have h0 := mid_len hmid
      rw [nb_length, ← HV.out, bs_length] at h0
      exact h0
    have HQ := Lib.hid (mid_end HV.out hmid)
    have hWs : w.heap.size + 1 < W.heap.size := by have := kd.lt; omega
    have c0 := k0.cell
    have cd := kd.cell
    have hsl : ∀ W, (Instr.slice 9 (.string s) (some (.int .i64 (done : Int))) none none).run Tryd.prog W = .ok (.string (s.extract done s.size)) W := by
      intro W
      rw [run_slice_string_from_if W 9 s .i64 (done : Int) Tryd.underlying9, if_pos ⟨by omega, by omega⟩]
      simp
    have HD := Lib.hid hK
    clear e1 e2 hmid hK
    have hex : (s.extract done s.size).size ≤ s.size := by simp
    gi_wp2_with fail
    refine ⟨trivial, ?_⟩
    refine (callsIn_wide.2 (writeString_any (w.heap.size + 1) (w.heap.size + 1) (Lib.byteCells bl) (s.extract done s.size) W kb (by rw [Lib.byteCells_length]; omega) (Nat.le_of_lt hWs))).mono ?_
    rintro e w3 ⟨rfl, hb3, hw3⟩
    have cs3 : Lib.byteCells bl ++ Lib.strCells (s.extract done s.size) = Lib.byteCells (bl ++ (s.extract done s.size).data.toList) := (Lib.byteCells_append _ _).symm
    rw [cs3] at hb3
    clear cs3 c0 cd
    gi_wp2_with fail
    refine ⟨trivial, ?_⟩
    refine (callsIn_wide.2 (writeByte_any (w.heap.size + 1) (w.heap.size + 1) _ 34 w3 (.inr hb3) (by rw [Lib.byteCells_length, List.length_append, show (s.extract done s.size).data.toList.length = (s.extract done s.size).size from rfl]; omega) (by have := hw3.1.size; omega))).mono ?_
    rintro e w4 ⟨rfl, hb4, hw4⟩
    have cs4 : Lib.byteCells (bl ++ (s.extract done s.size).data.toList) ++ [Value.int .u8 34] = Lib.byteCells (bl ++ (s.extract done s.size).data.toList ++ [34]) := (Lib.byteCells_append _ [34]).symm
    rw [cs4] at hb4
    have hw5 := hw3.trans hw4
    clear cs4 hw3 hw4
    gi_wp2_with fail
    refine ⟨trivial, ?_⟩
    refine (callsIn_wide.2 (Tryd.Builder_String_any_k (w.heap.size + 1) (w.heap.size + 1) _ w4 (.inr hb4) (by have := hw5.1.size; omega))).mono ?_
    rintro e w6 ⟨rfl, _, hB6, hO6⟩
    have hw7 : Wrote (w.heap.size + 1) (w.heap.size + 1) W w6 := hw5.trans ⟨hB6, hO6⟩
    have hK6 : w6.heap[D]? = some (.deferred (some [])) := (hw7.keeps kb 0).same D _ (Nat.zero_le _) HD.out rfl
    gi_wp2
    refine ⟨by simp, .inl ⟨_, _, rfl, run_takeDeferred hK6, ?_⟩⟩
    refine ⟨_, results_tmp rfl _ _ _, ?_, (hB.trans (hw7.1.mono (by omega))).trans (belowK_b (w := w) (Nat.le_refl _) w6 D _ _ (by simp at hD; omega) hK6 rfl rfl)⟩
    have hfin : (⟨(bl ++ (s.extract done s.size).data.toList ++ [34]).toArray⟩ : ByteArray) = strOfNums (quoteL (bs s)) := by
      apply bs_inj
      rw [bs_strOfNums, ← HQ.out]
      · show nb (bl ++ (s.extract done s.size).data.toList ++ [34]) = _
        rw [nb_append, nb_append, ← bs_data, bs_rest]
        rfl
      · rw [← HQ.out]
        intro c hc
        have hnb : ∀ (l : List UInt8), ∀ c ∈ nb l, IsByte c := by
          intro l c h
          obtain ⟨u, _, rfl⟩ := List.mem_map.1 h
          exact byte_bd u
        rcases List.mem_append.1 hc with hc | hc
        · rcases List.mem_append.1 hc with hc | hc
          · exact hnb bl c hc
          · exact bs_byte s c (List.mem_of_mem_drop hc)
        · simp at hc; subst hc; exact ⟨by decide, by decide⟩
    refine ret_str ?_
    rw [← List.append_assoc, ← Lib.extract_data]
    exact hfin

theorem quoted_any (s : ByteArray) (hs : s.size ≤ 1000000000000) (hv : valid (bs s) = true) (w : World) :
    Calls Tryd.prog 54 #[.string s] w fun e W' => e = .returned (.string (strOfNums (quoteL (bs s)))) ∧ Below w.heap.size w W' := by
  obtain ⟨rs, hrs, h⟩ := (valid_iff (by rw [bs_length]; exact hs)).1 hv
  exact callsIn_wide.1 (quoted_in 5 (Nat.le_refl _) s hs rs hrs h w)
end Go.Proofs.YtjpppfcbhkbbpaaDoor
