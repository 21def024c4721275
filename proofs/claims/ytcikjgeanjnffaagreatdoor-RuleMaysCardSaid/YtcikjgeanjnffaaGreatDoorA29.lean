/-
  WHAT THE PROOF STANDS ON, a part of it: RefText.
-/
import Derived.Test.YtcikjgeanjnffaaGreatDoorA27
import Derived.Deep.RegionLaw


/-
  CONTRACTS OF THE REFERENCE's written.
-/
namespace Go.Proofs.YtcikjgeanjnffaaGreatDoor
open Go.RowKit
open Utf Term
set_option linter.unusedVariables false
set_option linter.unusedSimpArgs false

namespace Term
theorem shown_cases : ∀ c : Fin 256, shown (c.val : Int) = if (c.val : Int) = 34 ∨ (c.val : Int) = 92 then [92, (c.val : Int)] else if (c.val : Int) = 8 then [92, 98] else if (c.val : Int) = 9 then [92, 116] else if (c.val : Int) = 10 then [92, 110]
  else if (c.val : Int) = 12 then [92, 102] else if (c.val : Int) = 13 then [92, 114] else if (c.val : Int) < 32 ∨ (c.val : Int) = 127 then [92, 117, 48, 48, hex ((c.val : Int) / 16), hex ((c.val : Int) % 16)] else [(c.val : Int)] := by decide +kernel
/-- What is written when k bytes are dealt with. -/
def soFar (l : List Int) (k : Nat) : List Int := 34 :: (l.take k).flatMap shown
theorem soFar_len (l : List Int) (k : Nat) (hk : k ≤ l.length) : (soFar l k).length ≤ 1 + 6 * k := by
  have := shown_len (l.take k)
  rw [List.length_take, Nat.min_eq_left hk] at this
  unfold soFar
  rw [List.length_cons]
  omega
theorem soFar_step (s : ByteArray) (k : Nat) (h : k < s.size) : soFar (bs s) (k + 1) = soFar (bs s) k ++ shown (s[k].toNat : Int) := by
  unfold soFar
  rw [bs_take_step s k h, List.flatMap_append]
  simp
end Term

/-- A row of one cell, just made. -/
theorem owns_one (w : World) (x : Value) : (w.alloc (.cells #[x] 5)).ownsRow w.heap.size 5 1 (.slice (some ⟨w.heap.size, 0, none⟩) 1 1) 1 [x] :=
  ⟨rfl, .inr ⟨w.heap.size, 1, #[x], rfl, Nat.le_refl _, World.alloc_heap_new w _, by decide, by unfold maxLen; omega, rfl, rfl⟩⟩

theorem digit_at (i : Int) (h0 : 0 ≤ i) (h1 : i ≤ 15) (W : World) : (Instr.index 9 (.string ⟨#[48, 49, 50, 51, 52, 53, 54, 55, 56, 57, 65, 66, 67, 68, 69, 70]⟩) (.int .u8 i)).run Tryz.prog W = .ok (.int .u8 (hex i)) W := by
  obtain ⟨n, rfl⟩ := Int.eq_ofNat_of_zero_le h0
  rw [run_index_string _ _ _ _ _ Tryz.underlying9, dif_pos ⟨h0, by show (n : Int) < ((16 : Nat) : Int); omega⟩]
  have hd : ∀ k : Fin 16, ((((⟨#[48, 49, 50, 51, 52, 53, 54, 55, 56, 57, 65, 66, 67, 68, 69, 70]⟩ : ByteArray)[k.val]'(k.isLt)).toNat : Nat) : Int) = hex (k.val : Int) := by decide +kernel
  rw [← hd ⟨n, by omega⟩]
  rfl

/-- append to a row of the call's own, as one step of a region that draws its order. -/
theorem step_append_own {P : Program} {ops : Array Oper} {o : Oper} {a : Act} {w : World} {K : Act → World → Prop} {Q : Exit → Act → World → Prop} {E : Prop}
    (hg : o.guard = none) (s x : Operand) (t : TypeId) (hop : o.op = Op.call { callee := Callee.builtin Builtin.append, args := #[s, x], argTypes := #[t, t] })
    (e : TypeId) (i : TypeInfo) (z : Value) (size bytes : Nat) (h1 : P.underlying t = some (.slice e)) (h2 : P.info? e = some i) (h3 : i.zero = some z) (h4 : i.size = size) (h5 : i.bytes = bytes) (h6 : z.cells.size = size) (h7 : 0 < size)
    (base : Nat) (v : Value) (n : Nat) (xs : List Value) (hs : a.eval s = v) (hown : w.ownsRow base e size v n xs)
    (ad : Addr) (m c : Nat) (news : List Value) (hx : a.eval x = .slice (some ad) m c) (hn : news.length = m * size) (hc : ∀ j u, news[j]? = some u → w.cell? (ad.add j) = some u) (h1c : ∀ u ∈ news, u.oneCell' = true)
    (b1 : n + m ≤ maxLen) (b2 : (n + m) * bytes ≤ 140737488355328) (hbase : base ≤ w.heap.size)
    (hK : ∀ v' w', w'.ownsRow base e size v' (n + m) (xs ++ news) → w.grownBy w' v.ownBlock → K (a.put o.dst v') w') :
    if Region.wanted o (yielded ops a.tmps) = true then Oper.wp P o a w K Q else E := by
  rw [if_pos (by simp [Region.wanted, hg])]
  obtain ⟨v', w', hrun, r1, r2, _⟩ := run_append_own (P := P) w base t o.type e i z size bytes h1 h2 h3 h4 h5 h6 h7 v n xs hown ad m c news hn hc h1c b1 b2 hbase
  unfold Oper.wp
  simp [execOp, hop, resolve, invoke, builtin, hs, hx, hrun, Result.andThen]
  exact hK v' w' r1 r2

/-- Between two rounds. -/
def WrittenAt (s : ByteArray) (w : World) (k : Nat) (v : Value) (wr : World) : Prop :=
  wr.ownsRow w.heap.size 5 1 v (soFar (bs s) k).length ((soFar (bs s) k).map (Value.int .u8)) ∧ Below w.heap.size w wr

theorem written_next {s : ByteArray} {w : World} {k : Nat} {v v' : Value} {wr w1 : World} {o : Obj} {m : Nat} {news : List Value} {c : Int} (h : WrittenAt s w k v wr) (hm : (shown c).length = m) (hn : news = (shown c).map (Value.int .u8))
    (ho : w1.ownsRow w.heap.size 5 1 v' ((soFar (bs s) k).length + m) ((soFar (bs s) k).map (Value.int .u8) ++ news)) (hg : (wr.alloc o).grownBy w1 v.ownBlock) (hs : soFar (bs s) (k + 1) = soFar (bs s) k ++ shown c) : WrittenAt s w (k + 1) v' w1 := by
  refine ⟨?_, (h.2.alloc h.2.size o).grown hg (by have := h.2.size; simp; omega) (fun j hj => (h.1.lt j hj).1)⟩
  rw [hs, List.length_append, List.map_append, hm, ← hn]
  exact ho

set_option maxRecDepth 100000 in
set_option maxHeartbeats 8000000 in
theorem written_any (s : ByteArray) (hs : s.size ≤ 40000) (w : World) :
    Calls Tryz.prog 159 #[.string s] w fun e w' => e = .returned (.string (strOfNums (quoteL (bs s)))) ∧ Below w.heap.size w w' := by
  obtain ⟨i0, hi, hz0, hz1, hz2⟩ := info_parts info_byte
  go_enter Tryz.func159, Tryz.ntmps159
  go_wp2
  go_loopw [4, 5] (fun v i wr => ∃ k : Nat, k ≤ s.size ∧ i = .int .i64 k ∧ WrittenAt s w k v wr) (fun _ i _ => s.size - (intOf i).toNat)
  case atStart => exact ⟨0, Nat.zero_le _, rfl, owns_one w _, (Below.refl _ w).alloc (Nat.le_refl _) _⟩
  case round =>
    obtain ⟨k, hk, rfl, hW⟩ := hrel
    have HW := Lib.hid hW
    have hsz := hW.2.size
    have hlen := soFar_len (bs s) k (by rw [bs_length]; exact hk)
    clear hW
    by_cases hlt : k < s.size
    · have HS := Lib.hid (soFar_step s k hlt)
      have HC := Lib.hid (shown_cases ⟨s[k].toNat, s[k].toNat_lt⟩)
      have ik := idx_at s (k : Int) k rfl hlt
      have hc0 : 0 ≤ (s[k].toNat : Int) := by omega
      have hc1 : (s[k].toNat : Int) ≤ 255 := (byte_bd s[k]).2
      dsimp only at HC
      generalize (s[k].toNat : Int) = c at *
      by_cases h34 : c = 34
      · subst h34
        have HD : Hid (shown 34 = [92, 34]) := Lib.hid (by decide +kernel)
        clear HC
        go_wp2_with (at_builtin; refine wpList_append_own _ rfl _ _ 87 rfl w.heap.size 5 i0 (.int .u8 0) 1 1 Tryz.underlying87 hi hz0 hz1 hz2 rfl (by decide) _ _ _ rfl (HW.out.1.alloc _) ⟨wr.heap.size, 0, none⟩ 2 2 [.int .u8 92, .int .u8 34] rfl rfl (cells_new wr #[.int .u8 92, .int .u8 34] 5 [.int .u8 92, .int .u8 34] (fun j u h => by simpa using h)) (by intro u hu; simp at hu; rcases hu with rfl | rfl <;> rfl) (by unfold maxLen; omega) (by omega) (by have := hsz; simp; omega) ?_; intro v' w1 hown' hgrow _)
        have HN := Lib.hid (written_next HW.out (by rw [HD.out]; rfl) (by rw [HD.out]; rfl) hown' hgrow HS.out)
        clear hown' hgrow
        go_wp2
        go_roundw
        case rel => exact ⟨k + 1, by omega, by go_num, HN.out⟩
        case measure => simp [intOf]; omega
      have g34 : (c == 34) = false := by simpa using h34
      by_cases h92 : c = 92
      · subst h92
        have HD : Hid (shown 92 = [92, 92]) := Lib.hid (by decide +kernel)
        clear HC
        go_wp2_with (at_builtin; refine wpList_append_own _ rfl _ _ 87 rfl w.heap.size 5 i0 (.int .u8 0) 1 1 Tryz.underlying87 hi hz0 hz1 hz2 rfl (by decide) _ _ _ rfl (HW.out.1.alloc _) ⟨wr.heap.size, 0, none⟩ 2 2 [.int .u8 92, .int .u8 92] rfl rfl (cells_new wr #[.int .u8 92, .int .u8 92] 5 [.int .u8 92, .int .u8 92] (fun j u h => by simpa using h)) (by intro u hu; simp at hu; rcases hu with rfl | rfl <;> rfl) (by unfold maxLen; omega) (by omega) (by have := hsz; simp; omega) ?_; intro v' w1 hown' hgrow _)
        have HN := Lib.hid (written_next HW.out (by rw [HD.out]; rfl) (by rw [HD.out]; rfl) hown' hgrow HS.out)
        clear hown' hgrow
        go_wp2
        go_roundw
        case rel => exact ⟨k + 1, by omega, by go_num, HN.out⟩
        case measure => simp [intOf]; omega
      have g92 : (c == 92) = false := by simpa using h92
      by_cases h8 : c = 8
      · subst h8
        have HD : Hid (shown 8 = [92, 98]) := Lib.hid (by decide +kernel)
        clear HC
        go_wp2_with (at_builtin; refine wpList_append_own _ rfl _ _ 87 rfl w.heap.size 5 i0 (.int .u8 0) 1 1 Tryz.underlying87 hi hz0 hz1 hz2 rfl (by decide) _ _ _ rfl (HW.out.1.alloc _) ⟨wr.heap.size, 0, none⟩ 2 2 [.int .u8 92, .int .u8 98] rfl rfl (cells_new wr #[.int .u8 92, .int .u8 98] 5 [.int .u8 92, .int .u8 98] (fun j u h => by simpa using h)) (by intro u hu; simp at hu; rcases hu with rfl | rfl <;> rfl) (by unfold maxLen; omega) (by omega) (by have := hsz; simp; omega) ?_; intro v' w1 hown' hgrow _)
        have HN := Lib.hid (written_next HW.out (by rw [HD.out]; rfl) (by rw [HD.out]; rfl) hown' hgrow HS.out)
        clear hown' hgrow
        go_wp2
        go_roundw
        case rel => exact ⟨k + 1, by omega, by go_num, HN.out⟩
        case measure => simp [intOf]; omega
      have g8 : (c == 8) = false := by simpa using h8
      by_cases h9 : c = 9
      · subst h9
        have HD : Hid (shown 9 = [92, 116]) := Lib.hid (by decide +kernel)
        clear HC
        go_wp2_with (at_builtin; refine wpList_append_own _ rfl _ _ 87 rfl w.heap.size 5 i0 (.int .u8 0) 1 1 Tryz.underlying87 hi hz0 hz1 hz2 rfl (by decide) _ _ _ rfl (HW.out.1.alloc _) ⟨wr.heap.size, 0, none⟩ 2 2 [.int .u8 92, .int .u8 116] rfl rfl (cells_new wr #[.int .u8 92, .int .u8 116] 5 [.int .u8 92, .int .u8 116] (fun j u h => by simpa using h)) (by intro u hu; simp at hu; rcases hu with rfl | rfl <;> rfl) (by unfold maxLen; omega) (by omega) (by have := hsz; simp; omega) ?_; intro v' w1 hown' hgrow _)
        have HN := Lib.hid (written_next HW.out (by rw [HD.out]; rfl) (by rw [HD.out]; rfl) hown' hgrow HS.out)
        clear hown' hgrow
        go_wp2
        go_roundw
        case rel => exact ⟨k + 1, by omega, by go_num, HN.out⟩
        case measure => simp [intOf]; omega
      have g9 : (c == 9) = false := by simpa using h9
      by_cases h10 : c = 10
      · subst h10
        have HD : Hid (shown 10 = [92, 110]) := Lib.hid (by decide +kernel)
        clear HC
        go_wp2_with (at_builtin; refine wpList_append_own _ rfl _ _ 87 rfl w.heap.size 5 i0 (.int .u8 0) 1 1 Tryz.underlying87 hi hz0 hz1 hz2 rfl (by decide) _ _ _ rfl (HW.out.1.alloc _) ⟨wr.heap.size, 0, none⟩ 2 2 [.int .u8 92, .int .u8 110] rfl rfl (cells_new wr #[.int .u8 92, .int .u8 110] 5 [.int .u8 92, .int .u8 110] (fun j u h => by simpa using h)) (by intro u hu; simp at hu; rcases hu with rfl | rfl <;> rfl) (by unfold maxLen; omega) (by omega) (by have := hsz; simp; omega) ?_; intro v' w1 hown' hgrow _)
        have HN := Lib.hid (written_next HW.out (by rw [HD.out]; rfl) (by rw [HD.out]; rfl) hown' hgrow HS.out)
        clear hown' hgrow
        go_wp2
        go_roundw
        case rel => exact ⟨k + 1, by omega, by go_num, HN.out⟩
        case measure => simp [intOf]; omega
      have g10 : (c == 10) = false := by simpa using h10
      by_cases h12 : c = 12
      · subst h12
        have HD : Hid (shown 12 = [92, 102]) := Lib.hid (by decide +kernel)
        clear HC
        go_wp2_with (at_builtin; refine wpList_append_own _ rfl _ _ 87 rfl w.heap.size 5 i0 (.int .u8 0) 1 1 Tryz.underlying87 hi hz0 hz1 hz2 rfl (by decide) _ _ _ rfl (HW.out.1.alloc _) ⟨wr.heap.size, 0, none⟩ 2 2 [.int .u8 92, .int .u8 102] rfl rfl (cells_new wr #[.int .u8 92, .int .u8 102] 5 [.int .u8 92, .int .u8 102] (fun j u h => by simpa using h)) (by intro u hu; simp at hu; rcases hu with rfl | rfl <;> rfl) (by unfold maxLen; omega) (by omega) (by have := hsz; simp; omega) ?_; intro v' w1 hown' hgrow _)
        have HN := Lib.hid (written_next HW.out (by rw [HD.out]; rfl) (by rw [HD.out]; rfl) hown' hgrow HS.out)
        clear hown' hgrow
        go_wp2
        go_roundw
        case rel => exact ⟨k + 1, by omega, by go_num, HN.out⟩
        case measure => simp [intOf]; omega
      have g12 : (c == 12) = false := by simpa using h12
      by_cases h13 : c = 13
      · subst h13
        have HD : Hid (shown 13 = [92, 114]) := Lib.hid (by decide +kernel)
        clear HC
        go_wp2_with (at_builtin; refine wpList_append_own _ rfl _ _ 87 rfl w.heap.size 5 i0 (.int .u8 0) 1 1 Tryz.underlying87 hi hz0 hz1 hz2 rfl (by decide) _ _ _ rfl (HW.out.1.alloc _) ⟨wr.heap.size, 0, none⟩ 2 2 [.int .u8 92, .int .u8 114] rfl rfl (cells_new wr #[.int .u8 92, .int .u8 114] 5 [.int .u8 92, .int .u8 114] (fun j u h => by simpa using h)) (by intro u hu; simp at hu; rcases hu with rfl | rfl <;> rfl) (by unfold maxLen; omega) (by omega) (by have := hsz; simp; omega) ?_; intro v' w1 hown' hgrow _)
        have HN := Lib.hid (written_next HW.out (by rw [HD.out]; rfl) (by rw [HD.out]; rfl) hown' hgrow HS.out)
        clear hown' hgrow
        go_wp2
        go_roundw
        case rel => exact ⟨k + 1, by omega, by go_num, HN.out⟩
        case measure => simp [intOf]; omega
      have g13 : (c == 13) = false := by simpa using h13
      by_cases hx : c < 32 ∨ c = 127
      · have HD : Hid (shown c = [92, 117, 48, 48, hex (c / 16), hex (c % 16)]) := Lib.hid (by rw [HC.out, if_neg (by omega), if_neg h8, if_neg h9, if_neg h10, if_neg h12, if_neg h13, if_pos hx])
        have q1 := digit_at (c / 16) (by omega) (by omega)
        have q2 := digit_at (c % 16) (by omega) (by omega)
        by_cases h32 : c < 32
        · have d32 : decide (c < 32) = true := by simpa using h32
          have hwq : IntKind.u8.wrap (c.tdiv 16) = c / 16 := by rw [Int.tdiv_eq_ediv_of_nonneg hc0]; exact IntWalk.u8_in _ (by omega)
          have hwr : c.tmod 16 = c % 16 := Int.tmod_eq_emod_of_nonneg hc0
          clear HC h34 h92 h8 h9 h10 h12 h13 hx
          go_wp2
          go_region_law (refine step_append_own rfl (.tmp 69) (.tmp 78) 87 rfl 5 i0 (.int .u8 0) 1 1 Tryz.underlying87 hi hz0 hz1 hz2 rfl (by decide) w.heap.size _ _ _ (by simp [Act.eval, Act.put]) (HW.out.1.alloc _) ⟨wr.heap.size, 0, none⟩ 6 6 [.int .u8 92, .int .u8 117, .int .u8 48, .int .u8 48, .int .u8 (hex (c / 16)), .int .u8 (hex (c % 16))] (by simp [Act.eval, Act.put]) rfl (cells_new wr #[.int .u8 92, .int .u8 117, .int .u8 48, .int .u8 48, .int .u8 (hex (c / 16)), .int .u8 (hex (c % 16))] 5 [.int .u8 92, .int .u8 117, .int .u8 48, .int .u8 48, .int .u8 (hex (c / 16)), .int .u8 (hex (c % 16))] (fun j u h => by simpa using h)) (by intro u hu; simp at hu; rcases hu with rfl | rfl | rfl | rfl | rfl <;> rfl) (by unfold maxLen; omega) (by omega) (by have := hsz; show w.heap.size ≤ (wr.alloc _).heap.size; simp; omega) ?_; intro v' w1 hown' hgrow)
          all_goals
            have HN := Lib.hid (written_next HW.out (by rw [HD.out]; rfl) (by rw [HD.out]; rfl) hown' ⟨hgrow.os, hgrow.tape, hgrow.output, hgrow.size, hgrow.block⟩ HS.out)
            clear hown' hgrow
            go_wp2
            go_roundw
            case rel => exact ⟨k + 1, by omega, by go_num, HN.out⟩
            case measure => simp [intOf]; omega
        · obtain rfl : c = 127 := by omega
          have HD2 : Hid (shown 127 = [92, 117, 48, 48, hex 7, hex 15]) := Lib.hid (by decide +kernel)
          have p1 := digit_at 7 (by decide) (by decide)
          have p2 := digit_at 15 (by decide) (by decide)
          have hwq : IntKind.u8.wrap 7 = 7 := by decide
          have hwr : (127 : Int).tmod 16 = 15 := by decide
          clear HC h34 h92 h8 h9 h10 h12 h13 hx HD q1 q2 g34 g92 g8 g9 g10 g12 g13
          go_wp2
          go_region_law (refine step_append_own rfl (.tmp 69) (.tmp 78) 87 rfl 5 i0 (.int .u8 0) 1 1 Tryz.underlying87 hi hz0 hz1 hz2 rfl (by decide) w.heap.size _ _ _ (by simp [Act.eval, Act.put]) (HW.out.1.alloc _) ⟨wr.heap.size, 0, none⟩ 6 6 [.int .u8 92, .int .u8 117, .int .u8 48, .int .u8 48, .int .u8 (hex 7), .int .u8 (hex 15)] (by simp [Act.eval, Act.put]) rfl (cells_new wr #[.int .u8 92, .int .u8 117, .int .u8 48, .int .u8 48, .int .u8 (hex 7), .int .u8 (hex 15)] 5 [.int .u8 92, .int .u8 117, .int .u8 48, .int .u8 48, .int .u8 (hex 7), .int .u8 (hex 15)] (fun j u h => by simpa using h)) (by intro u hu; simp at hu; rcases hu with rfl | rfl | rfl | rfl | rfl <;> rfl) (by unfold maxLen; omega) (by omega) (by have := hsz; show w.heap.size ≤ (wr.alloc _).heap.size; simp; omega) ?_; intro v' w1 hown' hgrow)
          all_goals
            have HN := Lib.hid (written_next HW.out (by rw [HD2.out]; rfl) (by rw [HD2.out]; rfl) hown' ⟨hgrow.os, hgrow.tape, hgrow.output, hgrow.size, hgrow.block⟩ HS.out)
            clear hown' hgrow
            go_wp2
            go_roundw
            case rel => exact ⟨k + 1, by omega, by go_num, HN.out⟩
            case measure => simp [intOf]; omega
      have HD : Hid (shown c = [c]) := Lib.hid (by rw [HC.out, if_neg (by omega), if_neg h8, if_neg h9, if_neg h10, if_neg h12, if_neg h13, if_neg hx])
      have d32 : decide (c < 32) = false := by simp; omega
      have g127 : (c == 127) = false := by simp; omega
      clear HC h34 h92 h8 h9 h10 h12 h13 hx
      go_wp2_with (at_builtin; refine wpList_append_own _ rfl _ _ 87 rfl w.heap.size 5 i0 (.int .u8 0) 1 1 Tryz.underlying87 hi hz0 hz1 hz2 rfl (by decide) _ _ _ rfl (HW.out.1.alloc _) ⟨wr.heap.size, 0, none⟩ 1 1 [.int .u8 c] rfl rfl (cells_new wr #[.int .u8 c] 5 [.int .u8 c] (fun j u h => by simpa using h)) (by intro u hu; simp at hu; rcases hu with rfl <;> rfl) (by unfold maxLen; omega) (by omega) (by have := hsz; simp; omega) ?_; intro v' w1 hown' hgrow _)
      have HN := Lib.hid (written_next HW.out (by rw [HD.out]; rfl) (by rw [HD.out]; rfl) hown' hgrow HS.out)
      clear hown' hgrow
      go_wp2
      go_roundw
      case rel => exact ⟨k + 1, by omega, by go_num, HN.out⟩
      case measure => simp [intOf]; omega
    · obtain rfl : k = s.size := by omega
      have HE : Hid (soFar (bs s) s.size ++ [34] = quoteL (bs s)) := Lib.hid (by unfold soFar quoteL; rw [bs_take_all]; rfl)
      go_wp2_with (at_builtin; refine wpList_append_own _ rfl _ _ 87 rfl w.heap.size 5 i0 (.int .u8 0) 1 1 Tryz.underlying87 hi hz0 hz1 hz2 rfl (by decide) _ _ _ rfl (HW.out.1.alloc _) ⟨wr.heap.size, 0, none⟩ 1 1 [.int .u8 34] rfl rfl (cells_new wr #[.int .u8 34] 5 [.int .u8 34] (fun j u h => by simpa using h)) (by intro u hu; simp at hu; rcases hu with rfl <;> rfl) (by unfold maxLen; omega) (by omega) (by have := hsz; simp; omega) ?_; intro v' w1 hown' hgrow _; obtain ⟨g, cap, rfl, hg, hl2, hx, hcell⟩ := owns_some (xs := soFar (bs s) s.size ++ [34]) (by rw [List.map_append]; exact hown') (by omega); have hconv := owns_string (cap := cap) (w' := w1) hx hcell hl2 (Below.refl _ _))
      have HB : Hid (Below w.heap.size w w1) := Lib.hid ((HW.out.2.alloc HW.out.2.size _).grown hgrow (by have := hsz; simp; omega) (fun j hj => (HW.out.1.lt j hj).1))
      clear hown' hgrow hcell hx
      go_wp2
      go_ret
      exact ⟨ret_str (by rw [HE.out]), HB.out⟩
end Go.Proofs.YtcikjgeanjnffaaGreatDoor

/-
  CONTRACTS OF THE REFERENCE's Text, of a term that may be.
-/
namespace Go.Proofs.YtcikjgeanjnffaaGreatDoor
open Go.RowKit
open Utf Term
set_option linter.unusedVariables false
set_option linter.unusedSimpArgs false

set_option maxRecDepth 100000 in
set_option maxHeartbeats 1000000 in
theorem reftext_1 (t x : ByteArray) (ht : t.size ≤ 40000) (hx : x.size ≤ 40000) (w : World) :
    Calls Tryz.prog 101 #[termV 1 t x] w fun e w' => e = .returned (.string (strOfNums (textL 1 t x))) ∧ Below w.heap.size w w' := by
  go_enter Tryz.func101, Tryz.ntmps101
  go_wp2
  go_ret
  refine ⟨ret_str (strOf_eq ?_), (Below.refl _ _).alloc (Nat.le_refl _) _⟩
  rw [bs_app, bs_app]
  rfl
set_option maxRecDepth 100000 in
set_option maxHeartbeats 1000000 in
theorem reftext_2 (t x : ByteArray) (ht : t.size ≤ 40000) (hx : x.size ≤ 40000) (w : World) :
    Calls Tryz.prog 101 #[termV 2 t x] w fun e w' => e = .returned (.string (strOfNums (textL 2 t x))) ∧ Below w.heap.size w w' := by
  go_enter Tryz.func101, Tryz.ntmps101
  go_wp2
  go_ret
  refine ⟨ret_str (strOf_eq ?_), (Below.refl _ _).alloc (Nat.le_refl _) _⟩
  rw [bs_app]
  rfl
set_option maxRecDepth 100000 in
set_option maxHeartbeats 1000000 in
theorem reftext_3 (t x : ByteArray) (ht : t.size ≤ 40000) (hx : x.size ≤ 40000) (w : World) :
    Calls Tryz.prog 101 #[termV 3 t x] w fun e w' => e = .returned (.string (strOfNums (textL 3 t x))) ∧ Below w.heap.size w w' := by
  have CQ := fun W => written_any t ht W
  go_enter Tryz.func101, Tryz.ntmps101
  go_wp2_with (go_at_call 159; refine (CQ _).mono ?_; rintro e w3 ⟨rfl, hB3⟩)
  go_ret
  exact ⟨rfl, text_below (Below.refl _ _) hB3⟩
set_option maxRecDepth 100000 in
set_option maxHeartbeats 1000000 in
theorem reftext_4 (t x : ByteArray) (ht : t.size ≤ 40000) (hx : x.size ≤ 40000) (w : World) :
    Calls Tryz.prog 101 #[termV 4 t x] w fun e w' => e = .returned (.string (strOfNums (textL 4 t x))) ∧ Below w.heap.size w w' := by
  have CQ := fun W => written_any t ht W
  have hq := quote_size t (by omega)
  have HQ := Lib.hid (bs_quote t)
  generalize strOfNums (quoteL (bs t)) = Q at *
  go_enter Tryz.func101, Tryz.ntmps101
  go_wp2
  go_region_with (go_at_call 159; refine (CQ _).mono ?_; rintro e w3 ⟨rfl, hB3⟩; obtain ⟨q0, q1, q2⟩ := box_cells hB3)
  all_goals
    go_wp2
    go_ret
    refine ⟨ret_str (strOf_eq ?_), may_below hB3 (Below.refl _ _)⟩
    rw [bs_app, bs_app, HQ.out]
    show _ ++ [64] ++ _ = quoteL (bs t) ++ 64 :: bs x
    simp
set_option maxRecDepth 100000 in
set_option maxHeartbeats 1000000 in
theorem reftext_5 (t x : ByteArray) (ht : t.size ≤ 40000) (hx : x.size ≤ 40000) (w : World) :
    Calls Tryz.prog 101 #[termV 5 t x] w fun e w' => e = .returned (.string (strOfNums (textL 5 t x))) ∧ Below w.heap.size w w' := by
  have CQ := fun W => written_any t ht W
  have hq := quote_size t (by omega)
  have HQ := Lib.hid (bs_quote t)
  generalize strOfNums (quoteL (bs t)) = Q at *
  go_enter Tryz.func101, Tryz.ntmps101
  go_wp2
  go_region_with (go_at_call 159; refine (CQ _).mono ?_; rintro e w3 ⟨rfl, hB3⟩; obtain ⟨q0, q1, q2⟩ := box_cells hB3)
  all_goals
    go_wp2
    go_ret
    refine ⟨ret_str (strOf_eq ?_), may_below hB3 (Below.refl _ _)⟩
    rw [bs_app, bs_app, bs_app, HQ.out]
    show _ ++ [94, 94, 60] ++ _ ++ [62] = quoteL (bs t) ++ 94 :: 94 :: 60 :: (bs x ++ [62])
    simp
theorem reftext_any (k : Int) (t x : ByteArray) (hk : mayS k t x = true) (ht : t.size ≤ 40000) (hx : x.size ≤ 40000) (w : World) :
    Calls Tryz.prog 101 #[termV k t x] w fun e w' => e = .returned (.string (strOfNums (textL k t x))) ∧ Below w.heap.size w w' := by
  by_cases h1 : k = 1
  · subst h1; exact reftext_1 t x ht hx w
  by_cases h2 : k = 2
  · subst h2; exact reftext_2 t x ht hx w
  by_cases h3 : k = 3
  · subst h3; exact reftext_3 t x ht hx w
  by_cases h4 : k = 4
  · subst h4; exact reftext_4 t x ht hx w
  by_cases h5 : k = 5
  · subst h5; exact reftext_5 t x ht hx w
  · unfold mayS at hk
    rw [if_neg h1, if_neg h2, if_neg h3, if_neg h4, if_neg h5] at hk
    cases hk
end Go.Proofs.YtcikjgeanjnffaaGreatDoor

