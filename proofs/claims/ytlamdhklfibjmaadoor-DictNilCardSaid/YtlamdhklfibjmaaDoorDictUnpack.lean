/-
  CONTRACT OF unpack.
-/
import Derived.Test.YtlamdhklfibjmaaDoorDictFind
import Derived.Test.YtlamdhklfibjmaaDoorDictLaid
import Derived.Laws.Rows
import Derived.Laws.OwnMore
namespace Go.Proofs.YtlamdhklfibjmaaDoor
open Go.RowKit
open Utf Term
set_option linter.unusedVariables false
set_option linter.unusedSimpArgs false

theorem index_255 : ∀ (l r : List Int), (∀ c ∈ l, IsByte c) → 255 ∉ l → Lib.index (Lib.bytesOf (l ++ 255 :: r)) [255] = (l.length : Int)
  | [], r, _, _ => by
    show Lib.index (255 :: Lib.bytesOf r) [255] = 0
    unfold Lib.index
    rw [if_pos (by simp)]
  | a :: l, r, hb, hn => by
    have hab := hb a List.mem_cons_self
    have hne : a ≠ 255 := fun h => hn (h ▸ List.mem_cons_self)
    have ih := index_255 l r (fun c hc => hb c (List.mem_cons_of_mem _ hc)) (fun h => hn (List.mem_cons_of_mem _ h))
    show Lib.index (UInt8.ofNat a.toNat :: Lib.bytesOf (l ++ 255 :: r)) [255] = _
    unfold Lib.index
    have h1 : ¬ ([255] : List UInt8).isPrefixOf (UInt8.ofNat a.toNat :: Lib.bytesOf (l ++ 255 :: r)) = true := by
      intro h
      have h2 : (255 : UInt8) = UInt8.ofNat a.toNat := by simpa [List.isPrefixOf] using h
      have h3 : (255 : UInt8).toNat = (UInt8.ofNat a.toNat).toNat := by rw [← h2]
      rw [UInt8.toNat_ofNat'] at h3
      unfold IsByte at hab
      have h4 : (255 : UInt8).toNat = 255 := rfl
      omega
    rw [if_neg h1, ih]
    have h5 : ((l.length : Int) == -1) = false := beq_eq_false_iff_ne.2 (by omega)
    rw [h5]
    simp

set_option maxRecDepth 100000 in
/-- bytes.Cut at byte 255, over a packed term from its second byte on. -/
theorem cut_any (b o sb : Nat) (a : TermD) (hn : 255 ∉ bs a.2.1) (ht : a.2.1.size ≤ 1000000000) (hx : a.2.2.size ≤ 1000000000) (m : Int) (w : World) (hm : w.cell? ⟨0, 0, none⟩ = some (.int .i64 m))
    (hr : RowC w b o ((bs a.2.1 ++ 255 :: bs a.2.2).map (Value.int .u8))) (hs : w.cell? ⟨sb, 0, none⟩ = some (.int .u8 255)) :
    Calls Tryd.prog 36 #[.slice (some ⟨b, o, none⟩) (a.2.1.size + a.2.2.size + 1) (a.2.1.size + a.2.2.size + 1), .slice (some ⟨sb, 0, none⟩) 1 1] w fun e w' => (∃ p, e = .returned (.tuple #[.slice (some ⟨b, o, none⟩) a.2.1.size (a.2.1.size + a.2.2.size + 1), .slice (some ⟨b, p, none⟩) a.2.2.size a.2.2.size, .bool true]) ∧ RowC w b p ((bs a.2.2).map (Value.int .u8))) ∧ ∃ q, w' = w.drewN q := by
  have hl : (bs a.2.1 ++ 255 :: bs a.2.2).length = a.2.1.size + a.2.2.size + 1 := by
    rw [List.length_append, List.length_cons, bs_length, bs_length]; omega
  have hby : ∀ c ∈ bs a.2.1 ++ 255 :: bs a.2.2, 0 ≤ c ∧ c < 256 := by
    intro c hc
    rcases List.mem_append.1 hc with hc | hc
    · have := bs_byte _ c hc; unfold IsByte at this; omega
    · rcases List.mem_cons.1 hc with rfl | hc
      · omega
      · have := bs_byte _ c hc; unfold IsByte at this; omega
  have h := Any.bytes_Cut_all Tryd.cutT (some ⟨b, o, none⟩) (some ⟨sb, 0, none⟩) (a.2.1.size + a.2.2.size + 1) (a.2.1.size + a.2.2.size + 1) 1 1 (bs a.2.1 ++ 255 :: bs a.2.2) [255] m w hl rfl hby (by intro y hy; simp at hy; omega)
    (fun _ => ⟨b, o, rfl, fun i hi => hr i _ (by rw [List.getElem?_map, List.getElem?_eq_getElem (by omega), List.getD_eq_getElem?_getD, List.getElem?_eq_getElem (by omega)]; rfl)⟩)
    (fun _ => ⟨sb, 0, rfl, fun i hi => by obtain rfl : i = 0 := by omega
                                          exact hs⟩) (fun h => by cases h) (Nat.le_refl _) (by omega) (by omega) hm
  have hidx := index_255 (bs a.2.1) (bs a.2.2) (fun c hc => bs_byte _ c hc) hn
  have he : Lib.bytesOf [255] = [255] := rfl
  rw [he, hidx, bs_length] at h
  refine h.mono ?_
  rintro e w' ⟨rfl, hq⟩
  refine ⟨?_, hq⟩
  unfold Lib.cutV
  rw [if_pos (by omega), Int.toNat_natCast]
  unfold Lib.fromV
  by_cases h0 : a.2.2.size = 0
  · rw [if_pos (by omega)]
    refine ⟨o, by rw [h0]; simp, fun i v hv => ?_⟩
    have : bs a.2.2 = [] := List.eq_nil_of_length_eq_zero (by rw [bs_length]; exact h0)
    rw [this] at hv
    simp at hv
  · rw [if_neg (by omega)]
    have e1 : a.2.1.size + a.2.2.size + 1 - (a.2.1.size + 1) = a.2.2.size := by omega
    rw [e1]
    have e2 : (⟨b, o, none⟩ : Addr).add (a.2.1.size + 1) = ⟨b, o + (a.2.1.size + 1), none⟩ := by unfold Addr.add; split <;> simp_all
    refine ⟨o + (a.2.1.size + 1), by rw [← e2]; rfl, fun i v hv => ?_⟩
    have := hr (a.2.1.size + 1 + i) v (by
      rw [List.getElem?_map, List.getElem?_append_right (by rw [bs_length]; omega), bs_length, show a.2.1.size + 1 + i - a.2.1.size = i + 1 by omega, List.getElem?_cons_succ, ← List.getElem?_map]
      exact hv)
    rwa [← Nat.add_assoc] at this

theorem str_bs (s : ByteArray) : strOfNums (bs s) = s := bs_inj (bs_strOfNums (bs_byte s))
theorem conv_row {W : World} {b p c : Nat} {s : ByteArray} (h : RowC W b p ((bs s).map (Value.int .u8))) : (convert 44 9 (.slice (some ⟨b, p, none⟩) s.size c)).run Tryd.prog W = .ok (.string s) W := by
  have g := run_convert_bytes_arg (P := Tryd.prog) W 44 5 Tryd.underlying44 Tryd.underlying5 b p s.size c (bs s) (bs_length s) (fun i hi => h i _ (by rw [List.getElem?_map, List.getElem?_eq_getElem (by rw [bs_length]; exact hi), List.getD_eq_getElem?_getD, List.getElem?_eq_getElem (by rw [bs_length]; exact hi)]; rfl)) 9 Tryd.underlying9
  rwa [str_bs] at g

theorem heap_first (w : World) (cs cs' : Array Value) (t t' : TypeId) (q : Nat) : (((w.alloc (.cells cs t)).alloc (.cells cs' t')).drewN q).heap[w.heap.size]? = some (.cells cs t (0, 0)) := by
  show ((w.heap.push (.cells cs t)).push (.cells cs' t'))[w.heap.size]? = _
  rw [Array.getElem?_push, if_neg (by simp), Array.getElem?_push, if_pos rfl]
theorem frozen_first {W : World} {g : Nat} {cs : Array Value} {t : TypeId} (h : W.heap[g]? = some (.cells cs t (0, 0))) (i : Nat) : W.frozen? ⟨g, i, none⟩ = false := by
  unfold World.frozen?
  rw [h]
  simp

set_option maxRecDepth 100000 in
set_option maxHeartbeats 2000000 in
theorem unpack_any (b o : Nat) (a : TermD) (hk : IsByte a.1) (hn : 255 ∉ bs a.2.1) (ht : a.2.1.size ≤ 1000000000) (hx : a.2.2.size ≤ 1000000000) (m : Int) (w : World) (hm : w.cell? ⟨0, 0, none⟩ = some (.int .i64 m))
    (hr : RowC w b o ((packL a).map (Value.int .u8))) :
    Calls Tryd.prog 27 #[.slice (some ⟨b, o, none⟩) (a.2.1.size + a.2.2.size + 2) (a.2.1.size + a.2.2.size + 2)] w fun e w' => e = .returned (termD a) ∧ Below w.heap.size w w' := by
  have hr1 : RowC w b (o + 1) ((bs a.2.1 ++ 255 :: bs a.2.2).map (Value.int .u8)) := fun j u hu => by
    have := hr (j + 1) u (by unfold packL; rw [List.map_cons, List.getElem?_cons_succ]; exact hu)
    rwa [show o + (j + 1) = o + 1 + j by omega] at this
  have c0 := hr 0 (.int .u8 a.1) (by unfold packL; rfl)
  rw [Nat.add_zero] at c0
  have hbl : b < w.heap.size := World.block_lt_of_cell? _ _ c0
  have HB0 := Lib.hid (below_new w (.cells #[.int .i64 0, .string ⟨#[]⟩, .string ⟨#[]⟩] 34))
  have HB1 := Lib.hid (below_step HB0.out (below_new _ (.cells #[.int .u8 255] 5)))
  have hs0 : (w.alloc (.cells #[.int .i64 0, .string ⟨#[]⟩, .string ⟨#[]⟩] 34)).heap.size = w.heap.size + 1 := by simp
  have MC := Lib.hid (cut_any b (o + 1) (w.heap.size + 1) a hn ht hx m ((w.alloc (.cells #[.int .i64 0, .string ⟨#[]⟩, .string ⟨#[]⟩] 34)).alloc (.cells #[.int .u8 255] 5)) (cell_below HB1.out hm) (hr1.below HB1.out) (by rw [World.cell?_alloc_at _ _ _ _ hs0.symm]; rfl))
  obtain ⟨tl, htl⟩ : ∃ tl, tl = a.2.1.size := ⟨_, rfl⟩
  obtain ⟨xl, hxl⟩ : ∃ xl, xl = a.2.2.size := ⟨_, rfl⟩
  rw [← htl, ← hxl] at MC ⊢
  rw [← htl] at ht
  rw [← hxl] at hx
  have HTL := Lib.hid htl
  have HXL := Lib.hid hxl
  clear htl hxl
  have wk : IntKind.i64.wrap a.1 = a.1 := by unfold IsByte at hk; exact IntWalk.i64_in _ (by omega)
  have e1 : ¬ tl + xl + 2 = 1 := by omega
  have e2 : (1 : Int) ≤ (tl : Int) + (xl : Int) + 2 := by omega
  have e3 : 1 ≤ tl + xl + 2 := by omega
  have e4 : tl + xl + 2 - 1 = tl + xl + 1 := by omega
  have HR1 : Hid (RowC w b (o + 1) ((bs a.2.1).map (Value.int .u8))) := Lib.hid (fun j u hu => hr1 j u (by rw [List.map_append, List.getElem?_append_left (List.getElem?_eq_some_iff.1 hu).1]; exact hu))
  clear hr hr1 hs0
  go_enter Tryd.func27, Tryd.ntmps27
  go_wp2_with (go_at_call 36; refine MC.out.mono ?_; rintro e w' ⟨⟨xp, rfl, hxa⟩, q, rfl⟩)
  have HB2 : Hid (Below w.heap.size w (((w.alloc (.cells #[.int .i64 0, .string ⟨#[]⟩, .string ⟨#[]⟩] 34)).alloc (.cells #[.int .u8 255] 5)).drewN q)) := Lib.hid (HB1.out.trans ⟨rfl, rfl, rfl, Nat.le_refl _, fun _ _ => rfl⟩)
  have k0 : (((w.alloc (.cells #[.int .i64 0, .string ⟨#[]⟩, .string ⟨#[]⟩] 34)).alloc (.cells #[.int .u8 255] 5)).drewN q).cell? ⟨w.heap.size, 0, none⟩ = some (.int .i64 0) := by
    rw [World.cell?_drewN]; exact cell_below (below_new _ _) (by rw [World.cell?_alloc_at _ _ _ _ rfl]; rfl)
  have k1 : (((w.alloc (.cells #[.int .i64 0, .string ⟨#[]⟩, .string ⟨#[]⟩] 34)).alloc (.cells #[.int .u8 255] 5)).drewN q).cell? ⟨w.heap.size, 1, none⟩ = some (.string ⟨#[]⟩) := by
    rw [World.cell?_drewN]; exact cell_below (below_new _ _) (by rw [World.cell?_alloc_at _ _ _ _ rfl]; rfl)
  have k2 : (((w.alloc (.cells #[.int .i64 0, .string ⟨#[]⟩, .string ⟨#[]⟩] 34)).alloc (.cells #[.int .u8 255] 5)).drewN q).cell? ⟨w.heap.size, 2, none⟩ = some (.string ⟨#[]⟩) := by
    rw [World.cell?_drewN]; exact cell_below (below_new _ _) (by rw [World.cell?_alloc_at _ _ _ _ rfl]; rfl)
  have HBLK : Hid ((((w.alloc (.cells #[.int .i64 0, .string ⟨#[]⟩, .string ⟨#[]⟩] 34)).alloc (.cells #[.int .u8 255] 5)).drewN q).heap[w.heap.size]? = some (.cells #[.int .i64 0, .string ⟨#[]⟩, .string ⟨#[]⟩] 34 (0, 0))) := Lib.hid (heap_first w _ _ _ _ q)
  have kf : ∀ i, (((w.alloc (.cells #[.int .i64 0, .string ⟨#[]⟩, .string ⟨#[]⟩] 34)).alloc (.cells #[.int .u8 255] 5)).drewN q).frozen? ⟨w.heap.size, i, none⟩ = false := fun i => frozen_first HBLK.out i
  have kb := cell_below HB2.out c0
  have hxa' : Hid (RowC (((w.alloc (.cells #[.int .i64 0, .string ⟨#[]⟩, .string ⟨#[]⟩] 34)).alloc (.cells #[.int .u8 255] 5)).drewN q) b xp ((bs a.2.2).map (Value.int .u8))) := Lib.hid hxa
  clear hxa
  generalize ((w.alloc (.cells #[.int .i64 0, .string ⟨#[]⟩, .string ⟨#[]⟩] 34)).alloc (.cells #[.int .u8 255] 5)).drewN q = W2 at *
  have g1' : (convert 44 9 (.slice (some ⟨b, o + 1, none⟩) tl (tl + xl + 1))).run Tryd.prog W2.drew = .ok (.string a.2.1) W2.drew := by
    rw [HTL.out]; exact conv_row (HR1.out.below HB2.out.drew)
  have g2' : (convert 44 9 (.slice (some ⟨b, xp, none⟩) xl xl)).run Tryd.prog W2.drew = .ok (.string a.2.2) W2.drew := by
    rw [HXL.out]; exact conv_row (show RowC W2.drew b xp _ from hxa'.out)
  go_region
  have HF : Hid (Below w.heap.size w (((W2.setCell ⟨w.heap.size, 0, none⟩ (.int .i64 a.1)).setCell ⟨w.heap.size, 1, none⟩ (.string a.2.1)).setCell ⟨w.heap.size, 2, none⟩ (.string a.2.2)).drew) :=
    Lib.hid ((((HB2.out.setCell (Nat.le_refl _) _).setCell (Nat.le_refl _) _).setCell (Nat.le_refl _) _).trans ⟨rfl, rfl, rfl, Nat.le_refl _, fun _ _ => rfl⟩)
  have HH : Hid ((((W2.setCell ⟨w.heap.size, 0, none⟩ (.int .i64 a.1)).setCell ⟨w.heap.size, 1, none⟩ (.string a.2.1)).setCell ⟨w.heap.size, 2, none⟩ (.string a.2.2)).drew.heap[w.heap.size]? = some (.cells #[.int .i64 a.1, .string a.2.1, .string a.2.2] 34 (0, 0))) :=
    Lib.hid (heap_setCell_same _ _ _ _ _ _ (heap_setCell_same _ _ _ _ _ _ (heap_setCell_same _ _ _ _ _ _ HBLK.out)))
  go_wp2_with fail
  refine bodyPost_ret (results_cell_row rfl _ _ w.heap.size 34 #[.int .i64 a.1, .string a.2.1, .string a.2.2] (0, 0) _ rfl HH.out Tryd.underlying34 rfl (by kernel_rfl)) rfl ?_
  exact ⟨rfl, HF.out⟩
end Go.Proofs.YtlamdhklfibjmaaDoor
