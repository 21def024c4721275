/-
  WHAT THE PROOF STANDS ON, a part of it: LexRest, LexWord, LexName.
-/
import Derived.Test.YtbcoklbfebmpoaaGreatDoorU18
import Derived.Test.YtbcoklbfebmpoaaGreatDoorU11
import Derived.WalkSpells
import Derived.WalkLawsBesides
import Derived.Laws.ResultCell
import Derived.Laws.Rows
/-
  CONTRACTS OF wellFormed AND (*reader).rest; WHAT A TAKER ANSWERS.
-/

namespace Go.Proofs.YtbcoklbfebmpoaaGreatDoor
open Go.RowKit
open Utf Term Lex
set_option linter.unusedVariables false

theorem lex_drewN (B : Nat) (w : World) (n : Nat) : Below B w (w.drewN n) := ⟨rfl, rfl, rfl, Nat.le_refl _, fun _ _ => rfl⟩
theorem bs_from (s : ByteArray) (a : Nat) : bs (s.extract a s.size) = (bs s).drop a := by
  rw [bs_extract]
  exact List.take_of_length_le (by rw [List.length_drop, bs_length]; exact Nat.le_refl _)

/-- How many bytes there are before the first one that is not well-formed. -/
def wfL (l : List Int) : Nat := endR (allR l)
theorem wfL_split {rs b : List Int} (h : AllMay rs) (hb : (dec b).2 = 0) (hl : (encs rs ++ b).length ≤ 1000000000000) : wfL (encs rs ++ b) = (encs rs).length := by
  unfold wfL
  rw [endR_map, allR_val hl, rest_of 0 h hb, endP_posR rs 0 h]
  split
  · rename_i e; rw [e]; rfl
  · simp

set_option maxRecDepth 100000 in
set_option maxHeartbeats 1000000 in
theorem wellFormed_any (s : ByteArray) (hs : s.size ≤ 1000000000000) (w : World) :
    Calls Tryz.prog 76 #[.string s] w fun e w' => e = .returned (.int .i64 (wfL (bs s))) ∧ w = w' := by
  obtain ⟨rs, b, hm, hl, hb⟩ := split_text _ (bs s) (Nat.le_refl _)
  have hlen : (encs rs).length + b.length = s.size := by rw [← bs_length, hl, List.length_append]
  have HW : Hid (wfL (bs s) = (encs rs).length) := Lib.hid (by
    rw [hl]
    exact wfL_split hm hb (by rw [List.length_append]; omega))
  have HS : Hid (∀ ra r rb, rs = ra ++ r :: rb → dec ((bs s).drop (encs ra).length) = (r, rsize r) ∧ (encs (ra ++ [r])).length = (encs ra).length + rsize r ∧ (encs ra).length + rsize r ≤ s.size ∧ 1 ≤ rsize r ∧ rsize r ≤ 4) := Lib.hid (by
    intro ra r rb e
    have hmr : May r := hm r (by rw [e]; simp)
    have h1 := rsize_enc hmr
    have h2 := rsize_pos.2 hmr
    have h3 := rsize_le r
    have e2 : bs s = encs ra ++ (enc r ++ (encs rb ++ b)) := by rw [hl, e, encs_append, encs_cons]; simp
    refine ⟨?_, ?_, ?_, by omega, h3⟩
    · rw [e2, List.drop_left]
      exact dec_enc hmr _
    · rw [encs_append, encs_cons, List.length_append, List.length_append, ← h1]
      simp [encs]
    · have := congrArg List.length e2
      simp only [List.length_append, bs_length] at this
      omega)
  have HE : Hid (dec ((bs s).drop (encs rs).length) = (0, 0)) := Lib.hid (by
    rw [hl, List.drop_left]
    exact dec_zero hb)
  rw [HW.out]
  clear hl hb hm
  obtain ⟨R, hR⟩ : ∃ R, R = (encs rs).length := ⟨_, rfl⟩
  rw [← hR]
  have HR := Lib.hid hR
  clear hR HW
  go_enter Tryz.func76, Tryz.ntmps76
  go_wp2
  go_loop [3] (fun i => ∃ ra rb, rs = ra ++ rb ∧ i = .int .i64 ((encs ra).length : Nat)) (fun i => s.size - (intOf i).toNat)
  case atStart => exact ⟨[], rs, rfl, rfl⟩
  case round =>
    obtain ⟨ra, rb, e, rfl⟩ := hrel
    cases rb with
    | nil =>
      rw [List.append_nil] at e
      subst e
      have HL := Lib.hid hlen
      have hle : (encs rs).length ≤ s.size := by omega
      clear hlen
      generalize (encs rs).length = E at *
      by_cases hlt : E < s.size
      · have C := get_any (s.extract E s.size) w (by simp; omega)
        unfold gotten at C
        rw [bs_from, HE.out] at C
        have HC := Lib.hid C
        clear C
        go_wp2_with (go_at_call 105; refine HC.out.mono ?_; rintro e w' ⟨rfl, rfl⟩)
        go_ret
        exact ⟨ret_int (by rw [HR.out]), rfl⟩
      · have d0 : decide (E < s.size) = false := by simp; omega
        go_wp2
        go_ret
        exact ⟨ret_int (by rw [HR.out]), rfl⟩
    | cons r rb =>
      obtain ⟨hd, h2, h3, h4, h5⟩ := HS.out ra r rb e
      have C := get_any (s.extract (encs ra).length s.size) w (by simp; omega)
      unfold gotten at C
      rw [bs_from, hd] at C
      have HN : Hid (rs = (ra ++ [r]) ++ rb) := Lib.hid (by rw [e]; simp)
      have H2 := Lib.hid h2
      clear hd h2 e hlen HR
      generalize (encs ra).length = E at *
      have h6 : E < s.size := by omega
      have hg : getErr (rsize r) = 0 := by unfold getErr; rw [if_neg (by omega)]
      simp only [hg] at C
      have HC := Lib.hid C
      clear C hg
      generalize rsize r = z at *
      go_wp2_with (go_at_call 105; refine HC.out.mono ?_; rintro e w' ⟨rfl, rfl⟩)
      go_round
      case rel => exact ⟨ra ++ [r], rb, HN.out, by rw [H2.out]; go_num⟩
      case measure => simp [intOf]; omega

set_option maxRecDepth 100000 in
theorem lexRest_any (rp : Nat) (s : ByteArray) (a : Nat) (ha : a ≤ s.size) (hs : s.size ≤ 1000000000000) (w : World) (h0 : w.cell? ⟨rp, 0, none⟩ = some (.string s)) (h1 : w.cell? ⟨rp, 1, none⟩ = some (.int .i64 a)) :
    Calls Tryz.prog 135 #[.pointer (some ⟨rp, 0, none⟩)] w fun e w' => e = .returned (.string (s.extract a s.size)) ∧ Below w.heap.size w w' := by
  have i0 : (0 : Int) ≤ (a : Int) := by omega
  have i1 : (a : Int) ≤ (s.size : Int) := by omega
  go_enter Tryz.func135, Tryz.ntmps135
  go_wp2
  go_quiet (fail)
  go_wp2
  go_ret
  exact ⟨rfl, lex_drewN _ _ _⟩

theorem prefix_take (s p : ByteArray) : (bs p).isPrefixOf (bs s) = (decide (p.size ≤ s.size) && ((s.extract 0 p.size).toList == p.toList)) := by
  rw [str_beq, bs_extract, Bool.eq_iff_iff, List.isPrefixOf_iff_prefix, Bool.and_eq_true, decide_eq_true_eq, decide_eq_true_eq]
  simp only [List.drop_zero, Nat.sub_zero]
  constructor
  · intro h
    have h1 := h.length_le
    rw [bs_length, bs_length] at h1
    refine ⟨h1, ?_⟩
    have := List.prefix_iff_eq_take.1 h
    rw [bs_length] at this
    exact this.symm
  · rintro ⟨_, h⟩
    rw [← h]
    exact List.take_prefix _ _
theorem hasPrefixIn_any (s p : ByteArray) (w : World) : Calls Tryz.prog 152 #[.string s, .string p] w fun e w' => e = .returned (.bool ((bs p).isPrefixOf (bs s))) ∧ w = w' := by
  have HP := Lib.hid (prefix_take s p)
  by_cases h : p.size ≤ s.size
  · have d : decide (p.size ≤ s.size) = true := decide_eq_true h
    go_enter Tryz.func152, Tryz.ntmps152
    go_wp2
    go_ret
    exact ⟨ret_bool (by rw [HP.out, d, Bool.true_and]), rfl⟩
  · have d : decide (p.size ≤ s.size) = false := decide_eq_false h
    go_enter Tryz.func152, Tryz.ntmps152
    go_wp2
    go_ret
    exact ⟨ret_bool (by rw [HP.out, d, Bool.false_and]), rfl⟩
theorem hasPrefix_any (s p : ByteArray) (w : World) : Calls Tryz.prog 134 #[.string s, .string p] w fun e w' => e = .returned (.bool ((bs p).isPrefixOf (bs s))) ∧ w = w' := by
  go_enter Tryz.func134, Tryz.ntmps134
  go_wp2_with (go_at_call 152; refine (hasPrefixIn_any _ _ _).mono ?_; rintro e w' ⟨rfl, rfl⟩)
  go_ret
  exact ⟨rfl, rfl⟩

/-- A symbol's cells, and its value. -/
abbrev symC (k : Int) (t : ByteArray) (tk : Int) (tt te : ByteArray) (p : Int) : Array Value := #[.int .i64 k, .string t, .int .i64 tk, .string tt, .string te, .int .i64 p]
def symA (x : Sym) : Array Value := symC x.kind (strOfNums x.text) x.tk (strOfNums x.tt) (strOfNums x.te) x.place
def symV (x : Sym) : Value := .agg (symA x)
/-- What a taker answers. -/
def tookE : Took → Ending
  | .no => .returned (.tuple #[.agg (symC 0 ⟨#[]⟩ 0 ⟨#[]⟩ ⟨#[]⟩ 0), .int .i64 0])
  | .bad => .panicked [{ v := .iface 38 (.int .i64 4), recovered := false }]
  | .got x n => .returned (.tuple #[symV x, .int .i64 (n : Nat)])
end Go.Proofs.YtbcoklbfebmpoaaGreatDoor

/-
  CONTRACTS OF THE TAKERS word, name, variable.
-/

namespace Go.Proofs.YtbcoklbfebmpoaaGreatDoor
open Go.RowKit
open Utf Term Lex
set_option linter.unusedVariables false
set_option linter.unusedSimpArgs false

abbrev zeroC : Array Value := symC 0 ⟨#[]⟩ 0 ⟨#[]⟩ ⟨#[]⟩ 0
theorem below_lex (w : World) (o : Obj) : Below w.heap.size w (w.alloc o) := (Below.refl _ _).alloc (Nat.le_refl _) _
theorem below_next {w u v : World} (h : Below w.heap.size w u) (k : Below u.heap.size u v) : Below w.heap.size w v := h.trans (k.mono h.size)
theorem cell_kept_b {w u : World} {a : Addr} {v : Value} (h : Below w.heap.size w u) (hm : w.cell? a = some v) : u.cell? a = some v := (h.cell (World.block_lt_of_cell? _ _ hm)).trans hm
/-- A block of one's own, whole. -/
def BlockAt (W : World) (g : Nat) (cs : Array Value) (t : TypeId) : Prop := W.heap[g]? = some (.cells cs t (0, 0))
theorem block_new (w : World) (cs : Array Value) (t : TypeId) : BlockAt (w.alloc (.cells cs t)) w.heap.size cs t := heap_alloc_new w _
theorem BlockAt.kept {w u : World} {g : Nat} {cs : Array Value} {t : TypeId} (h : BlockAt w g cs t) (k : Below w.heap.size w u) : BlockAt u g cs t := by
  unfold BlockAt at *
  rw [k.block g (Array.getElem?_eq_some_iff.1 h).1]
  exact h
theorem BlockAt.cell {W : World} {g : Nat} {cs : Array Value} {t : TypeId} (h : BlockAt W g cs t) {j : Nat} {v : Value} (hv : cs[j]? = some v) : W.cell? ⟨g, j, none⟩ = some v := by
  unfold BlockAt at h
  unfold World.cell?
  rw [h]
  simpa using hv
theorem BlockAt.free {W : World} {g : Nat} {cs : Array Value} {t : TypeId} (h : BlockAt W g cs t) (i : Nat) : W.frozen? ⟨g, i, none⟩ = false := by
  unfold BlockAt at h
  unfold World.frozen?
  rw [h]
  simp
theorem BlockAt.set {W : World} {g : Nat} {cs : Array Value} {t : TypeId} (h : BlockAt W g cs t) (i : Nat) (v : Value) : BlockAt (W.setCell ⟨g, i, none⟩ v) g (cs.setIfInBounds i v) t := heap_setCell_same W g i cs t v h
theorem BlockAt.set6 {W : World} {g : Nat} {x0 x1 x2 x3 x4 x5 : Value} {t : TypeId} (h : BlockAt W g #[x0, x1, x2, x3, x4, x5] t) (a b c d e f : Value) :
    BlockAt ((((((W.setCell ⟨g, 0, none⟩ a).setCell ⟨g, 1, none⟩ b).setCell ⟨g, 2, none⟩ c).setCell ⟨g, 3, none⟩ d).setCell ⟨g, 4, none⟩ e).setCell ⟨g, 5, none⟩ f) g #[a, b, c, d, e, f] t :=
  (((((h.set 0 a).set 1 b).set 2 c).set 3 d).set 4 e).set 5 f
theorem below_set6 {B : Nat} {w W : World} (h : Below B w W) {g : Nat} (hg : B ≤ g) (a b c d e f : Value) :
    Below B w ((((((W.setCell ⟨g, 0, none⟩ a).setCell ⟨g, 1, none⟩ b).setCell ⟨g, 2, none⟩ c).setCell ⟨g, 3, none⟩ d).setCell ⟨g, 4, none⟩ e).setCell ⟨g, 5, none⟩ f) :=
  (((((h.setCell hg _).setCell hg _).setCell hg _).setCell hg _).setCell hg _).setCell hg _

theorem results_lex {fn : Func} {p u : Tmp} {ty : TypeId} (h : fn.results = #[.cell p ty, .tmp u]) (tmps : Array Value) (P : Program) (w : World) (g : Nat) (t : TypeId) (cs : Array Value) (fr : Nat × Nat) (fs : Array Field)
    (hp : tmps.getD p undef = .pointer (some ⟨g, 0, none⟩)) (hg : w.heap[g]? = some (.cells cs t fr))
    (hu : P.underlying ty = some (.struct fs)) (hi : (P.info? ty).map (·.size) = some cs.size) :
    (results fn tmps).run P w = .ok (.tuple #[.agg cs, tmps.getD u undef]) w := by
  rw [results_cell_tmp h, hp]
  simp [asAddr, run_loadVar_row w g t ty cs fr (.struct fs) hg hu rfl hi, Result.andThen]

/-- What stands in a reader. -/
structure RdAt (W : World) (rp : Nat) (s : ByteArray) (a : Nat) : Prop where
  c0 : W.cell? ⟨rp, 0, none⟩ = some (.string s)
  c1 : W.cell? ⟨rp, 1, none⟩ = some (.int .i64 a)
  le : a ≤ s.size
  sz : s.size ≤ 1000000000
theorem RdAt.below {w u : World} {rp : Nat} {s : ByteArray} {a : Nat} (h : RdAt w rp s a) (k : Below w.heap.size w u) : RdAt u rp s a := ⟨cell_kept_b k h.c0, cell_kept_b k h.c1, h.le, h.sz⟩
theorem RdAt.rest {w : World} {rp : Nat} {s : ByteArray} {a : Nat} (h : RdAt w rp s a) : Calls Tryz.prog 135 #[.pointer (some ⟨rp, 0, none⟩)] w fun e w' => e = .returned (.string (s.extract a s.size)) ∧ Below w.heap.size w w' :=
  lexRest_any rp s a h.le (by have := h.sz; omega) w h.c0 h.c1
theorem rest_size (s : ByteArray) (a : Nat) : (s.extract a s.size).size = s.size - a := by simp

theorem run_at (K : Nat) (P : Int → Bool) (hT : TellsB K P) (r : ByteArray) (a : Nat) (i : Int) (hi : i = a) (ha : a ≤ r.size) (hs : r.size ≤ 1000000000000) (w : World) :
    Calls Tryz.prog 136 #[.string r, .int .i64 i, .func (.func K) #[] #[]] w fun e w' => e = .returned (.int .i64 ((a + spanL P ((bs r).drop a) : Nat) : Int)) ∧ w = w' := by
  subst hi
  exact lexRun_any K P hT r a ha hs w
theorem run_zero (K : Nat) (P : Int → Bool) (hT : TellsB K P) (r : ByteArray) (hs : r.size ≤ 1000000000000) (w : World) :
    Calls Tryz.prog 136 #[.string r, .int .i64 0, .func (.func K) #[] #[]] w fun e w' => e = .returned (.int .i64 ((spanL P (bs r) : Nat) : Int)) ∧ w = w' := by
  have := run_at K P hT r 0 0 rfl (Nat.zero_le _) hs w
  rwa [List.drop_zero, Nat.zero_add] at this
theorem bs_first (r : ByteArray) (n : Nat) : bs (r.extract 0 n) = (bs r).take n := by
  rw [bs_extract, List.drop_zero, Nat.sub_zero]
theorem bs_mid (r : ByteArray) (a n : Nat) : bs (r.extract a (a + n)) = ((bs r).drop a).take n := by
  rw [bs_extract, Nat.add_sub_cancel_left]
theorem str_of {s : ByteArray} {l : List Int} (h : bs s = l) : strOfNums l = s := by
  subst h
  refine bs_inj (bs_strOfNums (bs_byte s))
theorem runL_size (P : Int → Bool) (r : ByteArray) : spanL P (bs r) ≤ r.size := by have := runL_le P (bs r); rwa [bs_length] at this
theorem isWord_at (s : ByteArray) (l : List Int) (h : bs s = l) (hs : s.size ≤ 1000000000000) (v : Bool) (hv : isWordL l = v) (w : World) : Calls Tryz.prog 139 #[.string s] w fun e w' => e = .returned (.bool v) ∧ w = w' := by
  subst h
  subst hv
  exact isWord_any s hs w

set_option maxRecDepth 100000 in
set_option maxHeartbeats 2000000 in
theorem word_any (rp : Nat) (s : ByteArray) (a : Nat) (w : World) (h : RdAt w rp s a) :
    Calls Tryz.prog 108 #[.pointer (some ⟨rp, 0, none⟩)] w fun e w' => e = tookE (wordT ((bs s).drop a)) ∧ Below w.heap.size w w' := by
  have HB := Lib.hid (below_lex w (.cells zeroC 64))
  have HZ := Lib.hid (block_new w zeroC 64)
  have HR := Lib.hid (h.below HB.out).rest
  have hr := rest_size s a
  have hs := h.sz
  have HL := Lib.hid (bs_from s a)
  generalize (s.extract a s.size) = r at *
  have HT : Hid (bs r = (bs s).drop a) := HL
  rw [← HT.out]
  clear HT HL h
  have hn := runL_size letterDigit r
  have HC := Lib.hid (fun W => run_zero 137 letterDigit tells_LD r (by omega) W)
  have HE : Hid (bs (r.extract 0 (spanL letterDigit (bs r))) = (bs r).take (spanL letterDigit (bs r))) := Lib.hid (bs_first _ _)
  by_cases h0 : spanL letterDigit (bs r) = 0
  · have HV : Hid (wordT (bs r) = .no) := Lib.hid (by unfold wordT; rw [if_pos h0])
    rw [h0] at HC
    rw [HV.out]
    clear HV h0 HE hn
    go_enter Tryz.func108, Tryz.ntmps108
    go_wp2_with (go_at_call 135; refine HR.out.mono ?_; rintro e w1 ⟨rfl, hB1⟩)
    have HB1 := Lib.hid (below_next HB.out hB1)
    have HZ1 := Lib.hid (HZ.out.kept hB1)
    clear hB1
    have k0 := HZ1.out.cell (j := 0) rfl
    have k1 := HZ1.out.cell (j := 1) rfl
    have k2 := HZ1.out.cell (j := 2) rfl
    have k3 := HZ1.out.cell (j := 3) rfl
    have k4 := HZ1.out.cell (j := 4) rfl
    have k5 := HZ1.out.cell (j := 5) rfl
    have kf : ∀ j, w1.frozen? ⟨w.heap.size, j, none⟩ = false := fun j => HZ1.out.free j
    go_wp2_with (go_at_call 136; refine (HC.out _).mono ?_; rintro e w' ⟨rfl, rfl⟩)
    refine bodyPost_ret (results_lex rfl _ _ _ w.heap.size 64 _ (0, 0) _ rfl (HZ1.out.set6 _ _ _ _ _ _) Tryz.underlying64 (by kernel_rfl)) rfl ⟨rfl, below_set6 HB1.out (Nat.le_refl _) _ _ _ _ _ _⟩
  · have h0' : ((spanL letterDigit (bs r) : Int) == 0) = false := by simp; omega
    cases hw : isWordL ((bs r).take (spanL letterDigit (bs r))) with
    | true =>
      have HV : Hid (wordT (bs r) = .got (symT 6 ((bs r).take (spanL letterDigit (bs r)))) (spanL letterDigit (bs r))) := Lib.hid (by unfold wordT; rw [if_neg h0, if_pos hw])
      rw [HV.out]
      have HI := Lib.hid (fun W => isWord_at _ _ HE.out (by simp; omega) _ hw W)
      have HX : Hid (tookE (.got (symT 6 ((bs r).take (spanL letterDigit (bs r)))) (spanL letterDigit (bs r))) = .returned (.tuple #[.agg (symC 6 (r.extract 0 (spanL letterDigit (bs r))) 0 ⟨#[]⟩ ⟨#[]⟩ 0), .int .i64 (spanL letterDigit (bs r) : Nat)])) := Lib.hid (by
        unfold tookE symV symA symT
        simp only [str_of HE.out]
        rfl)
      rw [HX.out]
      clear HV HE HX hw
      generalize spanL letterDigit (bs r) = n at *
      have b0 : 0 ≤ (n : Int) := by omega
      have b1 : (n : Int) ≤ (r.size : Int) := by omega
      go_enter Tryz.func108, Tryz.ntmps108
      go_wp2_with (go_at_call 135; refine HR.out.mono ?_; rintro e w1 ⟨rfl, hB1⟩)
      have HB1 := Lib.hid (below_next HB.out hB1)
      have HZ1 := Lib.hid (HZ.out.kept hB1)
      clear hB1
      have k0 := HZ1.out.cell (j := 0) rfl
      have k1 := HZ1.out.cell (j := 1) rfl
      have k2 := HZ1.out.cell (j := 2) rfl
      have k3 := HZ1.out.cell (j := 3) rfl
      have k4 := HZ1.out.cell (j := 4) rfl
      have k5 := HZ1.out.cell (j := 5) rfl
      have kf : ∀ j, w1.frozen? ⟨w.heap.size, j, none⟩ = false := fun j => HZ1.out.free j
      go_wp2_with (first | (go_at_call 136; refine (HC.out _).mono ?_; rintro e w' ⟨rfl, rfl⟩) | (go_at_call 139; refine (HI.out _).mono ?_; rintro e w' ⟨rfl, rfl⟩))
      refine bodyPost_ret (results_lex rfl _ _ _ w.heap.size 64 _ (0, 0) _ rfl (HZ1.out.set6 _ _ _ _ _ _) Tryz.underlying64 (by kernel_rfl)) rfl ⟨rfl, below_set6 HB1.out (Nat.le_refl _) _ _ _ _ _ _⟩
    | false =>
      have HV : Hid (wordT (bs r) = .bad) := Lib.hid (by unfold wordT; rw [if_neg h0, if_neg (by rw [hw]; decide)])
      rw [HV.out]
      have HI := Lib.hid (fun W => isWord_at _ _ HE.out (by simp; omega) _ hw W)
      clear HV HE hw
      generalize spanL letterDigit (bs r) = n at *
      have b0 : 0 ≤ (n : Int) := by omega
      have b1 : (n : Int) ≤ (r.size : Int) := by omega
      go_enter Tryz.func108, Tryz.ntmps108
      go_wp2_with (first | (go_at_call 135; refine HR.out.mono ?_; rintro e w1 ⟨rfl, hB1⟩) | (go_at_call 136; refine (HC.out _).mono ?_; rintro e w' ⟨rfl, rfl⟩) | (go_at_call 139; refine (HI.out _).mono ?_; rintro e w' ⟨rfl, rfl⟩))
      exact ⟨rfl, rfl, below_next HB.out hB1⟩
end Go.Proofs.YtbcoklbfebmpoaaGreatDoor

/-
  CONTRACTS OF THE TAKERS name, variable.
-/

namespace Go.Proofs.YtbcoklbfebmpoaaGreatDoor
open Go.RowKit
open Utf Term Lex
set_option linter.unusedVariables false
set_option linter.unusedSimpArgs false

theorem hasPrefix_at (s p : ByteArray) (l lp : List Int) (h : bs s = l) (hp : bs p = lp) (v : Bool) (hv : lp.isPrefixOf l = v) (w : World) : Calls Tryz.prog 134 #[.string s, .string p] w fun e w' => e = .returned (.bool v) ∧ w = w' := by
  subst h
  subst hp
  subst hv
  exact hasPrefix_any s p w

/-- There is no name. -/
theorem nameT_no {l : List Int} (h : colonB (l.drop (spanL letterDigit l)) = false) : nameT l = .no := by
  unfold nameT
  rw [if_neg (by rw [h]; decide)]

set_option maxRecDepth 100000 in
set_option maxHeartbeats 2000000 in
theorem name_no (rp : Nat) (s : ByteArray) (a : Nat) (w : World) (h : RdAt w rp s a) (hno : colonB (((bs s).drop a).drop (spanL letterDigit ((bs s).drop a))) = false) :
    Calls Tryz.prog 107 #[.pointer (some ⟨rp, 0, none⟩)] w fun e w' => e = tookE (nameT ((bs s).drop a)) ∧ Below w.heap.size w w' := by
  rw [nameT_no hno]
  have HB := Lib.hid (below_lex w (.cells zeroC 64))
  have HZ := Lib.hid (block_new w zeroC 64)
  have HR := Lib.hid (h.below HB.out).rest
  have hr := rest_size s a
  have hs := h.sz
  have hl := bs_from s a
  rw [← hl] at hno
  clear hl
  generalize (s.extract a s.size) = r at *
  have hrs : r.size ≤ 1000000000 := by omega
  clear h hr hs
  have hn := runL_size letterDigit r
  have HC := Lib.hid (fun W => run_zero 137 letterDigit tells_LD r (by omega) W)
  have HE : Hid (bs (r.extract (spanL letterDigit (bs r)) r.size) = (bs r).drop (spanL letterDigit (bs r))) := Lib.hid (bs_from _ _)
  unfold colonB at hno
  cases h1 : [58].isPrefixOf ((bs r).drop (spanL letterDigit (bs r))) with
  | false =>
    have HP := Lib.hid (fun W => hasPrefix_at _ ⟨#[58]⟩ _ [58] HE.out rfl _ h1 W)
    clear h1 hno HE
    generalize spanL letterDigit (bs r) = n at *
    have b0 : 0 ≤ (n : Int) := by omega
    have b1 : (n : Int) ≤ (r.size : Int) := by omega
    go_enter Tryz.func107, Tryz.ntmps107
    go_wp2_with (go_at_call 135; refine HR.out.mono ?_; rintro e w1 ⟨rfl, hB1⟩)
    have HB1 := Lib.hid (below_next HB.out hB1)
    have HZ1 := Lib.hid (HZ.out.kept hB1)
    clear hB1
    have k0 := HZ1.out.cell (j := 0) rfl
    have k1 := HZ1.out.cell (j := 1) rfl
    have k2 := HZ1.out.cell (j := 2) rfl
    have k3 := HZ1.out.cell (j := 3) rfl
    have k4 := HZ1.out.cell (j := 4) rfl
    have k5 := HZ1.out.cell (j := 5) rfl
    have kf : ∀ j, w1.frozen? ⟨w.heap.size, j, none⟩ = false := fun j => HZ1.out.free j
    go_wp2_with (first | (go_at_call 136; refine (HC.out _).mono ?_; rintro e w' ⟨rfl, rfl⟩) | (go_at_call 134; refine (HP.out _).mono ?_; rintro e w' ⟨rfl, rfl⟩))
    refine bodyPost_ret (results_lex rfl _ _ _ w.heap.size 64 _ (0, 0) _ rfl (HZ1.out.set6 _ _ _ _ _ _) Tryz.underlying64 (by kernel_rfl)) rfl ⟨rfl, below_set6 HB1.out (Nat.le_refl _) _ _ _ _ _ _⟩
  | true =>
    rw [h1, Bool.true_and, Bool.not_eq_false'] at hno
    have HP := Lib.hid (fun W => hasPrefix_at _ ⟨#[58]⟩ _ [58] HE.out rfl _ h1 W)
    have HP2 := Lib.hid (fun W => hasPrefix_at _ ⟨#[58, 45]⟩ _ [58, 45] HE.out rfl _ hno W)
    clear h1 hno HE
    generalize spanL letterDigit (bs r) = n at *
    have b0 : 0 ≤ (n : Int) := by omega
    have b1 : (n : Int) ≤ (r.size : Int) := by omega
    go_enter Tryz.func107, Tryz.ntmps107
    go_wp2_with (go_at_call 135; refine HR.out.mono ?_; rintro e w1 ⟨rfl, hB1⟩)
    have HB1 := Lib.hid (below_next HB.out hB1)
    have HZ1 := Lib.hid (HZ.out.kept hB1)
    clear hB1
    have k0 := HZ1.out.cell (j := 0) rfl
    have k1 := HZ1.out.cell (j := 1) rfl
    have k2 := HZ1.out.cell (j := 2) rfl
    have k3 := HZ1.out.cell (j := 3) rfl
    have k4 := HZ1.out.cell (j := 4) rfl
    have k5 := HZ1.out.cell (j := 5) rfl
    have kf : ∀ j, w1.frozen? ⟨w.heap.size, j, none⟩ = false := fun j => HZ1.out.free j
    go_wp2_with (first | (go_at_call 136; refine (HC.out _).mono ?_; rintro e w' ⟨rfl, rfl⟩) | (go_at_call 134; with_reducible refine (HP.out _).mono ?_; rintro e w' ⟨rfl, rfl⟩) | (go_at_call 134; with_reducible refine (HP2.out _).mono ?_; rintro e w' ⟨rfl, rfl⟩))
    refine bodyPost_ret (results_lex rfl _ _ _ w.heap.size 64 _ (0, 0) _ rfl (HZ1.out.set6 _ _ _ _ _ _) Tryz.underlying64 (by kernel_rfl)) rfl ⟨rfl, below_set6 HB1.out (Nat.le_refl _) _ _ _ _ _ _⟩

set_option maxRecDepth 100000 in
set_option maxHeartbeats 4000000 in
theorem name_yes (rp : Nat) (s : ByteArray) (a : Nat) (w : World) (h : RdAt w rp s a) (hno : colonB (((bs s).drop a).drop (spanL letterDigit ((bs s).drop a))) = true) :
    Calls Tryz.prog 107 #[.pointer (some ⟨rp, 0, none⟩)] w fun e w' => e = tookE (nameT ((bs s).drop a)) ∧ Below w.heap.size w w' := by
  have HB := Lib.hid (below_lex w (.cells zeroC 64))
  have HZ := Lib.hid (block_new w zeroC 64)
  have HR := Lib.hid (h.below HB.out).rest
  have hr := rest_size s a
  have hs := h.sz
  have hl := bs_from s a
  rw [← hl] at hno ⊢
  clear hl
  generalize (s.extract a s.size) = r at *
  have hrs : r.size ≤ 1000000000 := by omega
  clear h hr hs
  have hn := runL_size letterDigit r
  have HC := Lib.hid (fun W => run_zero 137 letterDigit tells_LD r (by omega) W)
  have HE : Hid (bs (r.extract (spanL letterDigit (bs r)) r.size) = (bs r).drop (spanL letterDigit (bs r))) := Lib.hid (bs_from _ _)
  have hno2 := hno
  unfold colonB at hno2
  rw [Bool.and_eq_true, Bool.not_eq_true'] at hno2
  have HP := Lib.hid (fun W => hasPrefix_at _ ⟨#[58]⟩ _ [58] HE.out rfl _ hno2.1 W)
  have HP2 := Lib.hid (fun W => hasPrefix_at _ ⟨#[58, 45]⟩ _ [58, 45] HE.out rfl _ hno2.2 W)
  have hc1 : spanL letterDigit (bs r) + 1 ≤ r.size := by
    have := prefix_len hno2.1
    rw [List.length_drop, bs_length] at this
    simp only [List.length_cons, List.length_nil] at this
    omega
  have hk := runL_le localC ((bs r).drop (spanL letterDigit (bs r) + 1))
  rw [List.length_drop, bs_length] at hk
  have HC2 := Lib.hid (fun W => run_at 138 localC tells_local r (spanL letterDigit (bs r) + 1) ((spanL letterDigit (bs r) : Int) + 1) (by omega) hc1 (by omega) W)
  have HW : Hid (bs (r.extract 0 (spanL letterDigit (bs r))) = (bs r).take (spanL letterDigit (bs r))) := Lib.hid (bs_first _ _)
  have HF : Hid (bs (r.extract 0 (spanL letterDigit (bs r) + 1 + spanL localC ((bs r).drop (spanL letterDigit (bs r) + 1)))) = (bs r).take (spanL letterDigit (bs r) + 1 + spanL localC ((bs r).drop (spanL letterDigit (bs r) + 1)))) := Lib.hid (bs_first _ _)
  have HV : Hid (nameT (bs r) = if (0 < spanL letterDigit (bs r) ∧ isWordL ((bs r).take (spanL letterDigit (bs r))) = false) ∨ 64 < spanL localC ((bs r).drop (spanL letterDigit (bs r) + 1)) then .bad
    else .got (symT 7 ((bs r).take (spanL letterDigit (bs r) + 1 + spanL localC ((bs r).drop (spanL letterDigit (bs r) + 1))))) (spanL letterDigit (bs r) + 1 + spanL localC ((bs r).drop (spanL letterDigit (bs r) + 1)))) := Lib.hid (by
      unfold nameT; rw [if_pos hno])
  rw [HV.out]
  clear HV hno hno2 HE
  have HI : Hid (∀ W v, isWordL ((bs r).take (spanL letterDigit (bs r))) = v → Calls Tryz.prog 139 #[.string (r.extract 0 (spanL letterDigit (bs r)))] W fun e w' => e = .returned (.bool v) ∧ W = w') := Lib.hid (fun W v hv => isWord_at _ _ HW.out (by simp; omega) v hv W)
  clear HW
  generalize isWordL ((bs r).take (spanL letterDigit (bs r))) = iw at *
  generalize spanL localC ((bs r).drop (spanL letterDigit (bs r) + 1)) = k at *
  generalize spanL letterDigit (bs r) = c at *
  obtain ⟨n, hcn⟩ : ∃ n, n = c + 1 + k := ⟨_, rfl⟩
  rw [← hcn] at HC2 HF ⊢
  have b0 : 0 ≤ (c : Int) := by omega
  have b1 : (c : Int) ≤ (r.size : Int) := by omega
  have b2 : (c : Int) + 1 ≤ (n : Int) := by omega
  have b3 : (n : Int) ≤ (r.size : Int) := by omega
  have b4 : 0 ≤ (n : Int) := by omega
  by_cases hA : 0 < c ∧ iw = false
  · rw [if_pos (.inl hA)]
    obtain ⟨hA1, rfl⟩ := hA
    have d0 : decide ((0 : Int) < (c : Int)) = true := by simpa using hA1
    have HI2 := Lib.hid (fun W => HI.out W false rfl)
    clear HI hcn
    go_enter Tryz.func107, Tryz.ntmps107
    go_wp2_with (go_at_call 135; refine HR.out.mono ?_; rintro e w1 ⟨rfl, hB1⟩)
    go_wp2_with (go_at_call 136; refine (HC.out _).mono ?_; rintro e w' ⟨rfl, rfl⟩)
    go_wp2_with (first | (go_at_call 134; with_reducible refine (HP.out _).mono ?_; rintro e w' ⟨rfl, rfl⟩) | (go_at_call 134; with_reducible refine (HP2.out _).mono ?_; rintro e w' ⟨rfl, rfl⟩))
    go_wp2_with (go_at_call 136; refine (HC2.out _).mono ?_; rintro e w' ⟨rfl, rfl⟩)
    go_wp2_with (go_at_call 139; refine (HI2.out _).mono ?_; rintro e w' ⟨rfl, rfl⟩)
    exact ⟨rfl, rfl, below_next HB.out hB1⟩
  · by_cases hk : 64 < k
    · rw [if_pos (.inr hk)]
      have d1 : decide ((64 : Int) < (n : Int) - (c : Int) - 1) = true := by simp; omega
      by_cases hc : 0 < c
      · have d0 : decide ((0 : Int) < (c : Int)) = true := by simpa using hc
        have hiw : iw = true := by cases iw with | true => rfl | false => exact absurd ⟨hc, rfl⟩ hA
        have HI2 := Lib.hid (fun W => HI.out W true hiw)
        clear HI hcn hA hiw hk
        go_enter Tryz.func107, Tryz.ntmps107
        go_wp2_with (go_at_call 135; refine HR.out.mono ?_; rintro e w1 ⟨rfl, hB1⟩)
        go_wp2_with (go_at_call 136; refine (HC.out _).mono ?_; rintro e w' ⟨rfl, rfl⟩)
        go_wp2_with (first | (go_at_call 134; with_reducible refine (HP.out _).mono ?_; rintro e w' ⟨rfl, rfl⟩) | (go_at_call 134; with_reducible refine (HP2.out _).mono ?_; rintro e w' ⟨rfl, rfl⟩))
        go_wp2_with (go_at_call 136; refine (HC2.out _).mono ?_; rintro e w' ⟨rfl, rfl⟩)
        go_wp2_with (go_at_call 139; refine (HI2.out _).mono ?_; rintro e w' ⟨rfl, rfl⟩)
        exact ⟨rfl, rfl, below_next HB.out hB1⟩
      · have d0 : decide ((0 : Int) < (c : Int)) = false := by simp; omega
        clear HI hcn hA hk
        go_enter Tryz.func107, Tryz.ntmps107
        go_wp2_with (go_at_call 135; refine HR.out.mono ?_; rintro e w1 ⟨rfl, hB1⟩)
        go_wp2_with (go_at_call 136; refine (HC.out _).mono ?_; rintro e w' ⟨rfl, rfl⟩)
        go_wp2_with (first | (go_at_call 134; with_reducible refine (HP.out _).mono ?_; rintro e w' ⟨rfl, rfl⟩) | (go_at_call 134; with_reducible refine (HP2.out _).mono ?_; rintro e w' ⟨rfl, rfl⟩))
        go_wp2_with (go_at_call 136; refine (HC2.out _).mono ?_; rintro e w' ⟨rfl, rfl⟩)
        go_wp2_with fail
        exact ⟨rfl, rfl, below_next HB.out hB1⟩
    · rw [if_neg (fun h => h.elim hA hk)]
      have d1 : decide ((64 : Int) < (n : Int) - (c : Int) - 1) = false := by simp; omega
      have HX : Hid (tookE (.got (symT 7 ((bs r).take n)) n) = .returned (.tuple #[.agg (symC 7 (r.extract 0 n) 0 ⟨#[]⟩ ⟨#[]⟩ 0), .int .i64 (n : Nat)])) := Lib.hid (by
        unfold tookE symV symA symT
        simp only [str_of HF.out]
        rfl)
      rw [HX.out]
      by_cases hc : 0 < c
      · have d0 : decide ((0 : Int) < (c : Int)) = true := by simpa using hc
        have hiw : iw = true := by cases iw with | true => rfl | false => exact absurd ⟨hc, rfl⟩ hA
        have HI2 := Lib.hid (fun W => HI.out W true hiw)
        clear HI hcn hA hiw hk HX HF
        go_enter Tryz.func107, Tryz.ntmps107
        go_wp2_with (go_at_call 135; refine HR.out.mono ?_; rintro e w1 ⟨rfl, hB1⟩)
        have HB1 := Lib.hid (below_next HB.out hB1)
        have HZ1 := Lib.hid (HZ.out.kept hB1)
        clear hB1
        have k0 := HZ1.out.cell (j := 0) rfl
        have k1 := HZ1.out.cell (j := 1) rfl
        have k2 := HZ1.out.cell (j := 2) rfl
        have k3 := HZ1.out.cell (j := 3) rfl
        have k4 := HZ1.out.cell (j := 4) rfl
        have k5 := HZ1.out.cell (j := 5) rfl
        have kf : ∀ j, w1.frozen? ⟨w.heap.size, j, none⟩ = false := fun j => HZ1.out.free j
        go_wp2_with (go_at_call 136; refine (HC.out _).mono ?_; rintro e w' ⟨rfl, rfl⟩)
        go_wp2_with (first | (go_at_call 134; with_reducible refine (HP.out _).mono ?_; rintro e w' ⟨rfl, rfl⟩) | (go_at_call 134; with_reducible refine (HP2.out _).mono ?_; rintro e w' ⟨rfl, rfl⟩))
        go_wp2_with (go_at_call 136; refine (HC2.out _).mono ?_; rintro e w' ⟨rfl, rfl⟩)
        go_wp2_with (go_at_call 139; refine (HI2.out _).mono ?_; rintro e w' ⟨rfl, rfl⟩)
        refine bodyPost_ret (results_lex rfl _ _ _ w.heap.size 64 _ (0, 0) _ rfl (HZ1.out.set6 _ _ _ _ _ _) Tryz.underlying64 (by kernel_rfl)) rfl ⟨rfl, below_set6 HB1.out (Nat.le_refl _) _ _ _ _ _ _⟩
      · have d0 : decide ((0 : Int) < (c : Int)) = false := by simp; omega
        clear HI hcn hA hk HX HF
        go_enter Tryz.func107, Tryz.ntmps107
        go_wp2_with (go_at_call 135; refine HR.out.mono ?_; rintro e w1 ⟨rfl, hB1⟩)
        have HB1 := Lib.hid (below_next HB.out hB1)
        have HZ1 := Lib.hid (HZ.out.kept hB1)
        clear hB1
        have k0 := HZ1.out.cell (j := 0) rfl
        have k1 := HZ1.out.cell (j := 1) rfl
        have k2 := HZ1.out.cell (j := 2) rfl
        have k3 := HZ1.out.cell (j := 3) rfl
        have k4 := HZ1.out.cell (j := 4) rfl
        have k5 := HZ1.out.cell (j := 5) rfl
        have kf : ∀ j, w1.frozen? ⟨w.heap.size, j, none⟩ = false := fun j => HZ1.out.free j
        go_wp2_with (go_at_call 136; refine (HC.out _).mono ?_; rintro e w' ⟨rfl, rfl⟩)
        go_wp2_with (first | (go_at_call 134; with_reducible refine (HP.out _).mono ?_; rintro e w' ⟨rfl, rfl⟩) | (go_at_call 134; with_reducible refine (HP2.out _).mono ?_; rintro e w' ⟨rfl, rfl⟩))
        go_wp2_with (go_at_call 136; refine (HC2.out _).mono ?_; rintro e w' ⟨rfl, rfl⟩)
        go_wp2_with fail
        refine bodyPost_ret (results_lex rfl _ _ _ w.heap.size 64 _ (0, 0) _ rfl (HZ1.out.set6 _ _ _ _ _ _) Tryz.underlying64 (by kernel_rfl)) rfl ⟨rfl, below_set6 HB1.out (Nat.le_refl _) _ _ _ _ _ _⟩

theorem name_any (rp : Nat) (s : ByteArray) (a : Nat) (w : World) (h : RdAt w rp s a) :
    Calls Tryz.prog 107 #[.pointer (some ⟨rp, 0, none⟩)] w fun e w' => e = tookE (nameT ((bs s).drop a)) ∧ Below w.heap.size w w' := by
  cases hc : colonB (((bs s).drop a).drop (spanL letterDigit ((bs s).drop a))) with
  | true => exact name_yes rp s a w h hc
  | false => exact name_no rp s a w h hc
end Go.Proofs.YtbcoklbfebmpoaaGreatDoor

