/-
  WHAT THE PROOF STANDS ON, a part of it: Triple, TripleText.
-/
import Derived.Test.YtfldpfomecjdkaaGreatDoorS20
import Derived.Test.YtfldpfomecjdkaaGreatDoorS21
/-
  CONTRACT OF MayFollow.
-/

namespace Go.Proofs.YtfldpfomecjdkaaGreatDoor
open Go.RowKit
open Utf Term
set_option linter.unusedVariables false

set_option maxRecDepth 100000 in
set_option maxHeartbeats 2000000 in
theorem mayFollow_vast (a b c : TermD) (ha : Vast a) (hb : Vast b) (hc : Vast c) (m : Int) (w : World) (hm : w.cell? ⟨1, 0, none⟩ = some (.int .i64 m)) :
    Calls Tryz.prog 66 #[tripleV a b c] w fun e w' => e = .returned (.bool (mayD a && mayD b && mayD c)) ∧ Below w.heap.size w w' := by
  have i0 := idx0 a b c
  have i1 := idx1 a b c
  have i2 := idx2 a b c
  have HM := Lib.hid hm
  have MA := fun v h => mayD_vast (v := v) ha h m
  have MB := fun v h => mayD_vast (v := v) hb h m
  have MC := fun v h => mayD_vast (v := v) hc h m
  generalize mayD a = va at *
  generalize mayD b = vb at *
  generalize mayD c = vc at *
  clear hm ha hb hc
  go_enter Tryz.func66, Tryz.ntmps66
  go_wp2
  refine wp_loop_rounds 4 ?_
  rw [rounds_succ]
  go_wp2_with fail
  have B0 : Hid (Below w.heap.size w ((w.alloc (.cells #[.int .i64 a.1, .string a.2.1, .string a.2.2, .int .i64 b.1, .string b.2.1, .string b.2.2, .int .i64 c.1, .string c.2.1, .string c.2.2] 51)).alloc (.cells #[.int .i64 a.1, .string a.2.1, .string a.2.2] 31))) :=
    Lib.hid (below_step (below_new _ _) (below_new _ _))
  refine (MA va rfl _ (cell_below B0.out HM.out)).mono ?_
  rintro e w1 ⟨rfl, hB1⟩
  have B1 := Lib.hid (below_step B0.out hB1)
  clear B0 hB1
  cases va with
  | false =>
    go_wp2_with fail
    go_ret
    exact ⟨rfl, B1.out⟩
  | true =>
    go_wp2_with fail
    rw [rounds_succ]
    go_wp2_with fail
    have B2 := Lib.hid (below_step B1.out (below_new w1 (.cells #[.int .i64 b.1, .string b.2.1, .string b.2.2] 31)))
    refine (MB vb rfl _ (cell_below B2.out HM.out)).mono ?_
    rintro e w2 ⟨rfl, hB2⟩
    have B3 := Lib.hid (below_step B2.out hB2)
    clear B1 B2 hB2
    cases vb with
    | false =>
      go_wp2_with fail
      go_ret
      exact ⟨rfl, B3.out⟩
    | true =>
      go_wp2_with fail
      rw [rounds_succ]
      go_wp2_with fail
      have B4 := Lib.hid (below_step B3.out (below_new w2 (.cells #[.int .i64 c.1, .string c.2.1, .string c.2.2] 31)))
      refine (MC vc rfl _ (cell_below B4.out HM.out)).mono ?_
      rintro e w3 ⟨rfl, hB3⟩
      have B5 := Lib.hid (below_step B4.out hB3)
      clear B3 B4 hB3
      cases vc with
      | false =>
        go_wp2_with fail
        go_ret
        exact ⟨rfl, B5.out⟩
      | true =>
        go_wp2_with fail
        rw [rounds_succ]
        go_wp2_with fail
        go_ret
        exact ⟨rfl, B5.out⟩
theorem mayFollow_any (a b c : TermD) (ha : Fits a) (hb : Fits b) (hc : Fits c) (m : Int) (w : World) (hm : w.cell? ⟨1, 0, none⟩ = some (.int .i64 m)) :
    Calls Tryz.prog 66 #[tripleV a b c] w fun e w' => e = .returned (.bool (mayD a && mayD b && mayD c)) ∧ Below w.heap.size w w' := mayFollow_vast a b c ha.vast hb.vast hc.vast m w hm

end Go.Proofs.YtfldpfomecjdkaaGreatDoor
/-
  THE CONTRACT OF TripleText.
-/

namespace Go.Proofs.YtfldpfomecjdkaaGreatDoor
open Go.RowKit
open Utf Term
set_option linter.unusedVariables false

def textD (a : TermD) : List Int := textL a.1 a.2.1 a.2.2
def tripleL (a b c : TermD) : List Int := textD a ++ 32 :: (textD b ++ 32 :: (textD c ++ [32, 46]))

theorem quoteL_len (l : List Int) : (quoteL l).length ≤ 6 * l.length + 2 := by
  have h1 := shown_len l
  unfold quoteL
  simp only [List.length_cons, List.length_append, List.length_nil]
  omega
theorem textD_len {a : TermD} (hf : Fits a) : (textD a).length ≤ 7000000000010 := by
  have h1 := quoteL_len (bs a.2.1)
  have e1 := bs_length a.2.1
  have e2 := bs_length a.2.2
  have := hf.1
  have := hf.2
  unfold textD textL
  repeat' split
  all_goals
    try simp only [List.length_cons, List.length_append, List.length_nil]
    omega
def AllB (l : List Int) : Prop := ∀ c ∈ l, IsByte c
theorem AllB.nil : AllB [] := by intro c hc; cases hc
theorem AllB.cons {a : Int} {l : List Int} (ha : 0 ≤ a ∧ a ≤ 255) (h : AllB l) : AllB (a :: l) := by
  intro c hc
  rcases List.mem_cons.1 hc with rfl | hc
  · exact ha
  · exact h c hc
theorem AllB.app {l k : List Int} (h : AllB l) (h' : AllB k) : AllB (l ++ k) := by
  intro c hc
  rcases List.mem_append.1 hc with hc | hc
  · exact h c hc
  · exact h' c hc
theorem textL_byte (k : Int) (t x : ByteArray) : AllB (textL k t x) := by
  have h1 : AllB (quoteL (bs t)) := quoteL_byte (bs_byte t)
  have h2 : AllB (bs t) := bs_byte t
  have h3 : AllB (bs x) := bs_byte x
  unfold textL
  by_cases e1 : k = 1
  · rw [if_pos e1]; exact .cons (by decide) (.app h2 (.cons (by decide) .nil))
  rw [if_neg e1]
  by_cases e2 : k = 2
  · rw [if_pos e2]; exact .cons (by decide) (.cons (by decide) h2)
  rw [if_neg e2]
  by_cases e4 : k = 4
  · rw [if_pos e4]; exact .app h1 (.cons (by decide) h3)
  rw [if_neg e4]
  by_cases e5 : k = 5
  · rw [if_pos e5]; exact .app h1 (.cons (by decide) (.cons (by decide) (.cons (by decide) (.app h3 (.cons (by decide) .nil)))))
  rw [if_neg e5]
  exact h1

theorem textD_any {a : TermD} {v : Bool} (hf : Fits a) (hv : mayD a = v) (m : Int) (W : World) (hm : W.cell? ⟨1, 0, none⟩ = some (.int .i64 m)) :
    Calls Tryz.prog 67 #[termD a] W fun e w' => e = (if v then .returned (.tuple #[.string (strOfNums (textD a)), .int .i64 0]) else .returned (.tuple #[.string ⟨#[]⟩, .int .i64 2])) ∧ Below W.heap.size W w' := by
  rw [← hv]
  exact text_any a.1 a.2.1 a.2.2 hf.1 hf.2 m W hm

theorem bld_below {B b : Nat} {L : List Value} {W W' : World} (h : Bld B b L W) (hB : Below W.heap.size W W') : Bld B b L W' := by
  have hg : W.grownBy W' none := ⟨hB.os, hB.tape, hB.output, hB.size, fun k hk _ => hB.block k hk⟩
  exact bld_kept h hg (fun r e => by cases e)

theorem data_strOf (l : List Int) : (strOfNums l).data.toList = l.map fun n => UInt8.ofNat n.toNat := rfl
def u8s (l : List Int) : List UInt8 := l.map fun n => UInt8.ofNat n.toNat
theorem u8s_append (a b : List Int) : u8s (a ++ b) = u8s a ++ u8s b := by simp [u8s]
theorem cells_u8s (l : List Int) : Lib.strCells (strOfNums l) = Lib.byteCells (u8s l) := rfl

set_option maxRecDepth 100000 in
set_option maxHeartbeats 2000000 in
theorem tripleText_any (a b c : TermD) (ha : Fits a) (hb : Fits b) (hc : Fits c) (m : Int) (w : World) (hm : w.cell? ⟨1, 0, none⟩ = some (.int .i64 m)) :
    Calls Tryz.prog 40 #[tripleV a b c] w fun e w' => e = (if mayD a && mayD b && mayD c then .returned (.tuple #[.string (strOfNums (tripleL a b c)), .int .i64 0]) else .returned (.tuple #[.string ⟨#[]⟩, .int .i64 2])) ∧ Below w.heap.size w w' := by
  have i0 := idx0 a b c
  have i1 := idx1 a b c
  have i2 := idx2 a b c
  have HM := Lib.hid hm
  have MA := fun v h => textD_any (v := v) ha h m
  have MB := fun v h => textD_any (v := v) hb h m
  have MC := fun v h => textD_any (v := v) hc h m
  have LA := textD_len ha
  have LB := textD_len hb
  have LC := textD_len hc
  have HT : Hid (tripleL a b c = textD a ++ 32 :: (textD b ++ 32 :: (textD c ++ [32, 46]))) := Lib.hid rfl
  generalize tripleL a b c = TL at *
  generalize textD a = ta at *
  generalize textD b = tb at *
  generalize textD c = tc at *
  generalize mayD a = va at *
  generalize mayD b = vb at *
  generalize mayD c = vc at *
  clear hm ha hb hc
  have sz : ∀ l : List Int, (strOfNums l).size = l.length := strOfNums_size
  have SA := sz ta
  have SB := sz tb
  have SC := sz tc
  clear sz
  have CA := cells_u8s ta
  have CB := cells_u8s tb
  have CC := cells_u8s tc
  have HSA := Lib.hid SA
  have HSB := Lib.hid SB
  have HSC := Lib.hid SC
  have HCA := Lib.hid CA
  have HCB := Lib.hid CB
  have HCC := Lib.hid CC
  have lA : (u8s ta).length ≤ 7000000000010 := by unfold u8s; rw [List.length_map]; exact LA
  have lB : (u8s tb).length ≤ 7000000000010 := by unfold u8s; rw [List.length_map]; exact LB
  have lC : (u8s tc).length ≤ 7000000000010 := by unfold u8s; rw [List.length_map]; exact LC
  have zA : (strOfNums ta).size ≤ 7000000000010 := by omega
  have zB : (strOfNums tb).size ≤ 7000000000010 := by omega
  have zC : (strOfNums tc).size ≤ 7000000000010 := by omega
  clear SA SB SC CA CB CC LA LB LC HSA HSB HSC
  have hB1 : Hid (Below w.heap.size w ((w.alloc (.cells #[.int .i64 a.1, .string a.2.1, .string a.2.2, .int .i64 b.1, .string b.2.1, .string b.2.2, .int .i64 c.1, .string c.2.1, .string c.2.2] 51)).alloc (.cells #[.pointer none, .slice none 0 0] 86))) := Lib.hid (below_step (below_new _ _) (below_new _ _))
  have hb0 : Hid (Bld (w.heap.size + 1) (w.heap.size + 1) [] ((w.alloc (.cells #[.int .i64 a.1, .string a.2.1, .string a.2.2, .int .i64 b.1, .string b.2.1, .string b.2.2, .int .i64 c.1, .string c.2.1, .string c.2.2] 51)).alloc (.cells #[.pointer none, .slice none 0 0] 86))) :=
    Lib.hid (.inl ⟨Nat.le_refl _, .slice none 0 0, by have := World.alloc_heap_new (w.alloc (.cells #[.int .i64 a.1, .string a.2.1, .string a.2.2, .int .i64 b.1, .string b.2.1, .string b.2.2, .int .i64 c.1, .string c.2.1, .string c.2.2] 51)) (.cells #[.pointer none, .slice none 0 0] 86); rwa [World.size_alloc] at this, World.ownsRowF_nil _ _ _ _, by simp [Value.ownBlock]⟩)
  go_enter Tryz.func40, Tryz.ntmps40
  go_wp2
  generalize hu0 : (w.alloc (.cells #[.int .i64 a.1, .string a.2.1, .string a.2.2, .int .i64 b.1, .string b.2.1, .string b.2.2, .int .i64 c.1, .string c.2.1, .string c.2.2] 51)).alloc (.cells #[.pointer none, .slice none 0 0] 86) = u0 at *
  have hs0 : w.heap.size + 1 < u0.heap.size := by rw [← hu0]; simp
  clear hu0
  refine wp_loop_rounds 4 ?_
  rw [rounds_succ]
  go_wp2_with fail
  have D0 := Lib.hid (below_step hB1.out (below_new u0 (.cells #[.int .i64 a.1, .string a.2.1, .string a.2.2] 31)))
  have E0 := Lib.hid (bld_below hb0.out (below_new u0 (.cells #[.int .i64 a.1, .string a.2.1, .string a.2.2] 31)))
  refine (MA va rfl _ (cell_below D0.out HM.out)).mono ?_
  rintro e y0 ⟨rfl, hY⟩
  have F0 := Lib.hid (below_step D0.out hY)
  have G0 := Lib.hid (bld_below E0.out hY)
  have s0 : w.heap.size + 1 < y0.heap.size := by have := hY.size; simp at this; omega
  clear D0 E0 hY hB1 hb0 hs0
  cases va with
  | false =>
    go_wp2_with fail
    go_ret2
    exact ⟨rfl, F0.out⟩
  | true =>
    go_wp2_with fail
    refine (writeString_any (w.heap.size + 1) (w.heap.size + 1) ([]) (strOfNums ta) y0 G0.out (by simp; omega) (Nat.le_of_lt s0)).mono ?_
    rintro e p0 ⟨rfl, hb, hw⟩
    have q0 : Hid (Bld (w.heap.size + 1) (w.heap.size + 1) (Lib.byteCells (u8s ta)) p0) := Lib.hid (.inr (by rw [HCA.out] at hb; exact hb))
    have r0 := Lib.hid (F0.out.trans (hw.1.mono (by omega)))
    have t0 : w.heap.size + 1 < p0.heap.size := Nat.lt_of_lt_of_le s0 hw.1.size
    clear hb hw F0 G0 s0
    go_wp2_with fail
    refine (writeByte_any (w.heap.size + 1) (w.heap.size + 1) _ 32 p0 q0.out (by rw [Lib.byteCells_length]; (try simp only [List.length_append, List.length_cons, List.length_nil]); omega) (Nat.le_of_lt t0)).mono ?_
    rintro e o0 ⟨rfl, hb, hw⟩
    have b0 : Hid (Bld (w.heap.size + 1) (w.heap.size + 1) (Lib.byteCells (u8s ta ++ [32])) o0) := Lib.hid (.inr (by rw [Lib.byteCells_append]; exact hb))
    have c0 := Lib.hid (r0.out.trans (hw.1.mono (by omega)))
    have z0 : w.heap.size + 1 < o0.heap.size := Nat.lt_of_lt_of_le t0 hw.1.size
    clear hb hw q0 r0 t0
    go_wp2_with fail
    rw [rounds_succ]
    go_wp2_with fail
    have D1 := Lib.hid (below_step c0.out (below_new o0 (.cells #[.int .i64 b.1, .string b.2.1, .string b.2.2] 31)))
    have E1 := Lib.hid (bld_below b0.out (below_new o0 (.cells #[.int .i64 b.1, .string b.2.1, .string b.2.2] 31)))
    refine (MB vb rfl _ (cell_below D1.out HM.out)).mono ?_
    rintro e y1 ⟨rfl, hY⟩
    have F1 := Lib.hid (below_step D1.out hY)
    have G1 := Lib.hid (bld_below E1.out hY)
    have s1 : w.heap.size + 1 < y1.heap.size := by have := hY.size; simp at this; omega
    clear D1 E1 hY c0 b0 z0
    cases vb with
    | false =>
      go_wp2_with fail
      go_ret2
      exact ⟨rfl, F1.out⟩
    | true =>
      go_wp2_with fail
      refine (writeString_any (w.heap.size + 1) (w.heap.size + 1) (Lib.byteCells (u8s ta ++ [32])) (strOfNums tb) y1 G1.out (by rw [Lib.byteCells_length]; (try simp only [List.length_append, List.length_cons, List.length_nil]); omega) (Nat.le_of_lt s1)).mono ?_
      rintro e p1 ⟨rfl, hb, hw⟩
      have q1 : Hid (Bld (w.heap.size + 1) (w.heap.size + 1) (Lib.byteCells (u8s ta ++ [32] ++ u8s tb)) p1) := Lib.hid (.inr (by rw [HCB.out] at hb; rw [Lib.byteCells_append]; exact hb))
      have r1 := Lib.hid (F1.out.trans (hw.1.mono (by omega)))
      have t1 : w.heap.size + 1 < p1.heap.size := Nat.lt_of_lt_of_le s1 hw.1.size
      clear hb hw F1 G1 s1
      go_wp2_with fail
      refine (writeByte_any (w.heap.size + 1) (w.heap.size + 1) _ 32 p1 q1.out (by rw [Lib.byteCells_length]; (try simp only [List.length_append, List.length_cons, List.length_nil]); omega) (Nat.le_of_lt t1)).mono ?_
      rintro e o1 ⟨rfl, hb, hw⟩
      have b1 : Hid (Bld (w.heap.size + 1) (w.heap.size + 1) (Lib.byteCells (u8s ta ++ [32] ++ u8s tb ++ [32])) o1) := Lib.hid (.inr (by rw [Lib.byteCells_append]; exact hb))
      have c1 := Lib.hid (r1.out.trans (hw.1.mono (by omega)))
      have z1 : w.heap.size + 1 < o1.heap.size := Nat.lt_of_lt_of_le t1 hw.1.size
      clear hb hw q1 r1 t1
      go_wp2_with fail
      rw [rounds_succ]
      go_wp2_with fail
      have D2 := Lib.hid (below_step c1.out (below_new o1 (.cells #[.int .i64 c.1, .string c.2.1, .string c.2.2] 31)))
      have E2 := Lib.hid (bld_below b1.out (below_new o1 (.cells #[.int .i64 c.1, .string c.2.1, .string c.2.2] 31)))
      refine (MC vc rfl _ (cell_below D2.out HM.out)).mono ?_
      rintro e y2 ⟨rfl, hY⟩
      have F2 := Lib.hid (below_step D2.out hY)
      have G2 := Lib.hid (bld_below E2.out hY)
      have s2 : w.heap.size + 1 < y2.heap.size := by have := hY.size; simp at this; omega
      clear D2 E2 hY c1 b1 z1
      cases vc with
      | false =>
        go_wp2_with fail
        go_ret2
        exact ⟨rfl, F2.out⟩
      | true =>
        go_wp2_with fail
        refine (writeString_any (w.heap.size + 1) (w.heap.size + 1) (Lib.byteCells (u8s ta ++ [32] ++ u8s tb ++ [32])) (strOfNums tc) y2 G2.out (by rw [Lib.byteCells_length]; (try simp only [List.length_append, List.length_cons, List.length_nil]); omega) (Nat.le_of_lt s2)).mono ?_
        rintro e p2 ⟨rfl, hb, hw⟩
        have q2 : Hid (Bld (w.heap.size + 1) (w.heap.size + 1) (Lib.byteCells (u8s ta ++ [32] ++ u8s tb ++ [32] ++ u8s tc)) p2) := Lib.hid (.inr (by rw [HCC.out] at hb; rw [Lib.byteCells_append]; exact hb))
        have r2 := Lib.hid (F2.out.trans (hw.1.mono (by omega)))
        have t2 : w.heap.size + 1 < p2.heap.size := Nat.lt_of_lt_of_le s2 hw.1.size
        clear hb hw F2 G2 s2
        go_wp2_with fail
        refine (writeByte_any (w.heap.size + 1) (w.heap.size + 1) _ 32 p2 q2.out (by rw [Lib.byteCells_length]; (try simp only [List.length_append, List.length_cons, List.length_nil]); omega) (Nat.le_of_lt t2)).mono ?_
        rintro e o2 ⟨rfl, hb, hw⟩
        have b2 : Hid (Bld (w.heap.size + 1) (w.heap.size + 1) (Lib.byteCells (u8s ta ++ [32] ++ u8s tb ++ [32] ++ u8s tc ++ [32])) o2) := Lib.hid (.inr (by rw [Lib.byteCells_append]; exact hb))
        have c2 := Lib.hid (r2.out.trans (hw.1.mono (by omega)))
        have z2 : w.heap.size + 1 < o2.heap.size := Nat.lt_of_lt_of_le t2 hw.1.size
        clear hb hw q2 r2 t2
        go_wp2_with fail
        rw [rounds_succ]
        go_wp2_with fail
        refine (writeByte_any (w.heap.size + 1) (w.heap.size + 1) _ 46 o2 b2.out (by rw [Lib.byteCells_length]; (try simp only [List.length_append, List.length_cons, List.length_nil]); omega) (Nat.le_of_lt z2)).mono ?_
        rintro e o3 ⟨rfl, hb, hw⟩
        have b3 : Hid (Bld (w.heap.size + 1) (w.heap.size + 1) (Lib.byteCells (u8s ta ++ [32] ++ u8s tb ++ [32] ++ u8s tc ++ [32] ++ [46])) o3) := Lib.hid (.inr (by rw [Lib.byteCells_append]; exact hb))
        have c3 := Lib.hid (c2.out.trans (hw.1.mono (by omega)))
        have z3 : w.heap.size + 1 < o3.heap.size := Nat.lt_of_lt_of_le z2 hw.1.size
        clear hb hw b2 c2 z2
        go_wp2_with fail
        refine (Tryz.Builder_String_any_k (w.heap.size + 1) (w.heap.size + 1) _ o3 b3.out (Nat.le_of_lt z3)).mono ?_
        rintro e o4 ⟨rfl, _, hB4, _⟩
        have c4 := Lib.hid (c3.out.trans (hB4.mono (by omega)))
        clear hB4
        go_wp2_with fail
        go_ret2
        refine ⟨ret_st ?_, c4.out⟩
        rw [HT.out]
        unfold strOfNums u8s
        simp
end Go.Proofs.YtfldpfomecjdkaaGreatDoor
