/-
  WHAT THE PROOF STANDS ON, a part of it: RuLen, RuMuch.
-/
import Derived.Test.YtcikjgeanjnffaaGreatDoorC28
import Derived.Test.YtcikjgeanjnffaaGreatDoorC24
import Derived.Test.YtcikjgeanjnffaaGreatDoorC30
import Derived.Test.YtcikjgeanjnffaaGreatDoorC31
import Derived.Test.YtcikjgeanjnffaaGreatDoorC27
import Derived.Deep.RegionLaw
import Derived.IntWalk
/-
  PLAIN MATHEMATICS: how long the text of rules is that Much lets through.
-/

namespace Go.Proofs.YtcikjgeanjnffaaGreatDoor
open Go.RowKit
open Utf Term
set_option linter.unusedVariables false

def litSz (l : LitD) : Nat := sizeP l.2.1 + sizeP (l.2.2.1, l.2.2.2, zSl)
def litsSz (ls : List LitD) : Nat := (ls.map litSz).sum
def totR (r : RuleD) : Nat := sizeP r.1 + litsSz r.2
def totRs (rs : List RuleD) : Nat := (rs.map totR).sum
/-- What is gone through. -/
def Meek (rs : List RuleD) : Prop := totRs rs ≤ 30000 ∧ ∀ r ∈ rs, r.2.length ≤ 200
theorem litsSz_snoc (ls : List LitD) (l : LitD) : litsSz (ls ++ [l]) = litsSz ls + litSz l := by simp [litsSz]
theorem totRs_snoc (rs : List RuleD) (r : RuleD) : totRs (rs ++ [r]) = totRs rs + totR r := by simp [totRs]
theorem sizeSl_le (s : SlotD) : sizeSl s ≤ 90003 := by unfold sizeSl; omega
theorem sizeP_le (p : PatD) : sizeP p ≤ 270010 := by
  have := sizeSl_le p.1
  have := sizeSl_le p.2.1
  have := sizeSl_le p.2.2
  unfold sizeP; omega
theorem litSz_le (l : LitD) : litSz l ≤ 540020 := by
  have := sizeP_le l.2.1
  have := sizeP_le (l.2.2.1, l.2.2.2, zSl)
  unfold litSz; omega
end Go.Proofs.YtcikjgeanjnffaaGreatDoor

/-
  THE CONTRACT OF THE REFERENCE's Much. (Written by tools/genrumuch.py.)
-/

namespace Go.Proofs.YtcikjgeanjnffaaGreatDoor
open Go.RowKit
open Utf Term
set_option linter.unusedVariables false
set_option linter.unusedSimpArgs false

theorem RuleAt.head {W : World} {g o : Nat} {p : PatD} {v : Value} (h : RuleAt W g o p v) : W.rangeAt g o (patC p).toList := fun c u hu => by
  have hc : c < 12 := (List.getElem?_eq_some_iff.1 hu).1
  refine h.range c u ?_
  have e : (ruleC p v).toList = (patC p).toList ++ [v] := rfl
  rw [e, List.getElem?_append_left (by exact hc)]
  exact hu
theorem RuleAt.body {W : World} {g o : Nat} {p : PatD} {v : Value} (h : RuleAt W g o p v) : W.cell? ⟨g, o + 12, none⟩ = some v := h.2.2.2.2.2.2.2.2.2.2.2.2
theorem held21_start {w W : World} {b : Nat} {k : Int} {a0 : ByteArray} {a1 : Int} {a2 a3 : ByteArray} {b0 : ByteArray} {b1 : Int} {b2 b3 : ByteArray} {c0 : ByteArray} {c1 : Int} {c2 c3 : ByteArray} {x0 : ByteArray} {x1 : Int} {x2 x3 : ByteArray} {y0 : ByteArray} {y1 : Int} {y2 y3 : ByteArray} (h : W.rangeAt b 0 (litC (k, ((a0, a1, a2, a3), (b0, b1, b2, b3), (c0, c1, c2, c3)), (x0, x1, x2, x3), (y0, y1, y2, y3))).toList) (hB : Below w.heap.size w W) : (fun W' => W'.cell? ⟨b, 1, none⟩ = some (.string a0) ∧ W'.cell? ⟨b, 2, none⟩ = some (.int .i64 a1) ∧ W'.cell? ⟨b, 3, none⟩ = some (.string a2) ∧ W'.cell? ⟨b, 4, none⟩ = some (.string a3) ∧ W'.cell? ⟨b, 5, none⟩ = some (.string b0) ∧ W'.cell? ⟨b, 6, none⟩ = some (.int .i64 b1) ∧ W'.cell? ⟨b, 7, none⟩ = some (.string b2) ∧ W'.cell? ⟨b, 8, none⟩ = some (.string b3) ∧ W'.cell? ⟨b, 9, none⟩ = some (.string c0) ∧ W'.cell? ⟨b, 10, none⟩ = some (.int .i64 c1) ∧ W'.cell? ⟨b, 11, none⟩ = some (.string c2) ∧ W'.cell? ⟨b, 12, none⟩ = some (.string c3) ∧ W'.cell? ⟨b, 13, none⟩ = some (.string x0) ∧ W'.cell? ⟨b, 14, none⟩ = some (.int .i64 x1) ∧ W'.cell? ⟨b, 15, none⟩ = some (.string x2) ∧ W'.cell? ⟨b, 16, none⟩ = some (.string x3) ∧ W'.cell? ⟨b, 17, none⟩ = some (.string y0) ∧ W'.cell? ⟨b, 18, none⟩ = some (.int .i64 y1) ∧ W'.cell? ⟨b, 19, none⟩ = some (.string y2) ∧ W'.cell? ⟨b, 20, none⟩ = some (.string y3) ∧ Below w.heap.size w W') W.drew := by
  have key : ∀ j u, (litC (k, ((a0, a1, a2, a3), (b0, b1, b2, b3), (c0, c1, c2, c3)), (x0, x1, x2, x3), (y0, y1, y2, y3))).toList[j]? = some u → W.cell? ⟨b, j, none⟩ = some u := fun j u e => by
    have := h j u e
    rwa [Nat.zero_add] at this
  exact ⟨key 1 _ rfl, key 2 _ rfl, key 3 _ rfl, key 4 _ rfl, key 5 _ rfl, key 6 _ rfl, key 7 _ rfl, key 8 _ rfl, key 9 _ rfl, key 10 _ rfl, key 11 _ rfl, key 12 _ rfl, key 13 _ rfl, key 14 _ rfl, key 15 _ rfl, key 16 _ rfl, key 17 _ rfl, key 18 _ rfl, key 19 _ rfl, key 20 _ rfl, hB.drew⟩
theorem held21_step {w u v : World} {b : Nat} {a0 : ByteArray} {a1 : Int} {a2 a3 : ByteArray} {b0 : ByteArray} {b1 : Int} {b2 b3 : ByteArray} {c0 : ByteArray} {c1 : Int} {c2 c3 : ByteArray} {x0 : ByteArray} {x1 : Int} {x2 x3 : ByteArray} {y0 : ByteArray} {y1 : Int} {y2 y3 : ByteArray} (h : (fun W' => W'.cell? ⟨b, 1, none⟩ = some (.string a0) ∧ W'.cell? ⟨b, 2, none⟩ = some (.int .i64 a1) ∧ W'.cell? ⟨b, 3, none⟩ = some (.string a2) ∧ W'.cell? ⟨b, 4, none⟩ = some (.string a3) ∧ W'.cell? ⟨b, 5, none⟩ = some (.string b0) ∧ W'.cell? ⟨b, 6, none⟩ = some (.int .i64 b1) ∧ W'.cell? ⟨b, 7, none⟩ = some (.string b2) ∧ W'.cell? ⟨b, 8, none⟩ = some (.string b3) ∧ W'.cell? ⟨b, 9, none⟩ = some (.string c0) ∧ W'.cell? ⟨b, 10, none⟩ = some (.int .i64 c1) ∧ W'.cell? ⟨b, 11, none⟩ = some (.string c2) ∧ W'.cell? ⟨b, 12, none⟩ = some (.string c3) ∧ W'.cell? ⟨b, 13, none⟩ = some (.string x0) ∧ W'.cell? ⟨b, 14, none⟩ = some (.int .i64 x1) ∧ W'.cell? ⟨b, 15, none⟩ = some (.string x2) ∧ W'.cell? ⟨b, 16, none⟩ = some (.string x3) ∧ W'.cell? ⟨b, 17, none⟩ = some (.string y0) ∧ W'.cell? ⟨b, 18, none⟩ = some (.int .i64 y1) ∧ W'.cell? ⟨b, 19, none⟩ = some (.string y2) ∧ W'.cell? ⟨b, 20, none⟩ = some (.string y3) ∧ Below w.heap.size w W') u) (k : Below u.heap.size u v) : (fun W' => W'.cell? ⟨b, 1, none⟩ = some (.string a0) ∧ W'.cell? ⟨b, 2, none⟩ = some (.int .i64 a1) ∧ W'.cell? ⟨b, 3, none⟩ = some (.string a2) ∧ W'.cell? ⟨b, 4, none⟩ = some (.string a3) ∧ W'.cell? ⟨b, 5, none⟩ = some (.string b0) ∧ W'.cell? ⟨b, 6, none⟩ = some (.int .i64 b1) ∧ W'.cell? ⟨b, 7, none⟩ = some (.string b2) ∧ W'.cell? ⟨b, 8, none⟩ = some (.string b3) ∧ W'.cell? ⟨b, 9, none⟩ = some (.string c0) ∧ W'.cell? ⟨b, 10, none⟩ = some (.int .i64 c1) ∧ W'.cell? ⟨b, 11, none⟩ = some (.string c2) ∧ W'.cell? ⟨b, 12, none⟩ = some (.string c3) ∧ W'.cell? ⟨b, 13, none⟩ = some (.string x0) ∧ W'.cell? ⟨b, 14, none⟩ = some (.int .i64 x1) ∧ W'.cell? ⟨b, 15, none⟩ = some (.string x2) ∧ W'.cell? ⟨b, 16, none⟩ = some (.string x3) ∧ W'.cell? ⟨b, 17, none⟩ = some (.string y0) ∧ W'.cell? ⟨b, 18, none⟩ = some (.int .i64 y1) ∧ W'.cell? ⟨b, 19, none⟩ = some (.string y2) ∧ W'.cell? ⟨b, 20, none⟩ = some (.string y3) ∧ Below w.heap.size w W') v := by
  obtain ⟨h1, h2, h3, h4, h5, h6, h7, h8, h9, h10, h11, h12, h13, h14, h15, h16, h17, h18, h19, h20, hB⟩ := h
  exact ⟨cell_below k h1, cell_below k h2, cell_below k h3, cell_below k h4, cell_below k h5, cell_below k h6, cell_below k h7, cell_below k h8, cell_below k h9, cell_below k h10, cell_below k h11, cell_below k h12, cell_below k h13, cell_below k h14, cell_below k h15, cell_below k h16, cell_below k h17, cell_below k h18, cell_below k h19, cell_below k h20, below_step hB k⟩
theorem zSl_vast : VastSl zSl := ⟨by unfold VastS; decide, by unfold VastS; decide, by unfold VastS; decide⟩

theorem SliceRu.small {W : World} {v : Value} {rs : List RuleD} (h : SliceRu W v rs) : rs.length ≤ 9223372036854775807 := by
  rcases h with ⟨_, rfl⟩ | ⟨g, o, cap, _, h2, h3, _⟩
  · exact Nat.zero_le _
  · unfold maxLen at h3; omega
set_option maxRecDepth 100000 in
set_option maxHeartbeats 8000000 in
theorem refMuch_any (v : Value) (rs : List RuleD) (hf : ∀ r ∈ rs, VastR r) (most : Nat) (hmost : most ≤ 1000) (w : World) (hv : SliceRu w v rs) :
    Calls Tryz.prog 12 #[v, .int .i64 most] w fun e w' => ∃ r, e = .returned (.bool r) ∧ (r = false → rs.length ≤ most ∧ Meek rs) ∧ Below w.heap.size w w' := by
  have hbig := hv.small
  obtain ⟨ptr, cap, rfl, hcap, hp⟩ := hv.form
  have HP : Hid (∀ W, Below w.heap.size w W → 0 < rs.length → ∃ g o, ptr = some ⟨g, o, none⟩ ∧ RowRu W g o rs) := Lib.hid (fun W k h => by
    obtain ⟨g, o, e, r⟩ := hp h
    exact ⟨g, o, e, r.below k⟩)
  have HFt := Lib.hid hf
  have HSz := Lib.hid (fun (p : PatD) (h : VastP p) W => refSize_any p h W)
  obtain ⟨n, hnn⟩ : ∃ n, n = rs.length := ⟨_, rfl⟩
  have HN := Lib.hid hnn
  rw [← hnn] at HP hbig hcap ⊢
  clear hp hf hnn hv
  go_enter Tryz.func12, Tryz.ntmps12
  go_wp2_with fail
  go_loopg [5, 6, 7, 8] n (fun gg s i q4 q5 wr => ∃ (k tt : Nat), s = .int .i64 tt ∧ i = .int .i64 k ∧ k ≤ n ∧ k ≤ most + 1 ∧ n - k ≤ gg ∧ tt ≤ 30000 ∧ tt = totRs (rs.take k) ∧ (∀ r ∈ rs.take k, r.2.length ≤ 200) ∧ Below w.heap.size w wr)
  case atStart => exact ⟨0, 0, rfl, rfl, Nat.zero_le _, Nat.zero_le _, by omega, by omega, rfl, by simp, Below.refl _ _⟩
  case round =>
    obtain ⟨k, tt, rfl, rfl, hk, hk1, hgg, htt, hsum, hall, hB⟩ := hrel
    rename World => wo
    have HSu := Lib.hid hsum
    have HAl := Lib.hid hall
    have HB := Lib.hid hB
    clear hsum hall hB
    by_cases hlt : k < n
    · by_cases hkm : k ≤ most
      · have d1 : decide ((k : Int) < (n : Int)) = true := by simpa using hlt
        have d2 : decide ((k : Int) ≤ (most : Int)) = true := by simpa using hkm
        obtain ⟨x, hx⟩ : ∃ x, rs[k]? = some x := ⟨_, List.getElem?_eq_getElem (by have := HN.out; omega)⟩
        obtain ⟨g, o, rfl, hrow⟩ := HP.out wo HB.out (by omega)
        obtain ⟨vb, hra, hbd⟩ := hrow k x hx
        have hfx := HFt.out x (List.mem_of_getElem? hx)
        obtain ⟨bp, bcap, rfl, hbcap, hbrow⟩ := hbd.form
        have hbs := hbd.small
        have HBd : Hid (∀ W, Below wo.heap.size wo W → 0 < x.2.length → ∃ g o, bp = some ⟨g, o, none⟩ ∧ RowL W g o x.2) := Lib.hid (fun W k h => by
          obtain ⟨g, o, e, r⟩ := hbrow h
          exact ⟨g, o, e, r.below k⟩)
        have HH := Lib.hid hra.head
        have HBc : Hid (∀ W, Below wo.heap.size wo W → W.cell? ⟨g, o + k * 13 + 12, none⟩ = some (.slice bp x.2.length bcap)) := Lib.hid (fun W h => cell_below h hra.body)
        have HS12 := Lib.hid (show (Tryz.prog.info? 28).map (·.size) = some (patC x.1).toList.length by kernel_rfl)
        have harr : patC x.1 = (patC x.1).toList.toArray := rfl
        have hM := HSz.out x.1 hfx.1 wo
        rw [harr] at hM
        have HM := Lib.hid hM
        have hsp := sizeP_le x.1
        have HX := Lib.hid hx
        have HLv := Lib.hid hfx.2
        have i0 : (0 : Int) ≤ (k : Int) := by omega
        have i1 : (k : Int) < (n : Int) := by omega
        obtain ⟨sp, hspe⟩ : ∃ sp, sp = sizeP x.1 := ⟨_, rfl⟩
        rw [← hspe] at HM hsp
        have HSp := Lib.hid hspe
        obtain ⟨bn, hbn⟩ : ∃ bn, bn = x.2.length := ⟨_, rfl⟩
        rw [← hbn] at HBd HBc hbs hbcap
        have HBn := Lib.hid hbn
        clear hrow hra hbd hbrow hfx harr hM hx hspe hbn
        generalize (patC x.1).toList = C at *
        go_upto_region 6 with (first
          | (refine wpList_load_mid rfl 28 (.tmp 24) rfl g (o + k * 13) rfl C _ HH.out Tryz.underlying28 rfl HS12.out ?_)
          | (go_at_call 46; refine HM.out.mono ?_; rintro e y ⟨rfl, hY⟩))
        have HBy := Lib.hid hY
        clear hY HM HH HS12
        go_wp2_with fail
        rename_i gk1 K1 K2
        go_loopg [5, 7, 8] bn (fun gg s kv q8 wx => ∃ (j ss : Nat), s = .int .i64 ss ∧ kv = .int .i64 j ∧ j ≤ bn ∧ j ≤ 201 ∧ bn - j ≤ gg ∧ ss ≤ 300010 + 540020 * j ∧ ss = tt + sp + litsSz (x.2.take j) ∧ Below wo.heap.size wo wx)
        case atStart => exact ⟨0, tt + sp, by go_num, rfl, Nat.zero_le _, by omega, by omega, by omega, by simp [litsSz], HBy.out⟩
        case round =>
          obtain ⟨j, ss, rfl, rfl, hj, hj1, hgj, hss, hsum, hBx⟩ := hrel
          have HSj := Lib.hid hsum
          have HBx := Lib.hid hBx
          have hcb := HBc.out wr hBx
          clear hsum hBx
          by_cases hjl : j < bn
          · by_cases hj2 : j ≤ 200
            · have d3 : decide ((j : Int) < (bn : Int)) = true := by simpa using hjl
              have d4 : decide ((j : Int) ≤ 200) = true := by simp; omega
              obtain ⟨l, hl⟩ : ∃ l, x.2[j]? = some l := ⟨_, List.getElem?_eq_getElem (by have := HBn.out; omega)⟩
              obtain ⟨gb, ob, rfl, hr⟩ := HBd.out wr HBx.out (by omega)
              have hC := hr.range hl
              have hvl := HLv.out l (List.mem_of_getElem? hl)
              have hone := litC_one l
              have hlen : (litC l).toList.length = 21 := rfl
              have HTk : Hid (litsSz (x.2.take (j + 1)) = litsSz (x.2.take j) + litSz l) := Lib.hid (by rw [take_snocR hl, litsSz_snoc])
              have hz := litSz_le l
              obtain ⟨k', ⟨⟨a0, a1, a2, a3⟩, ⟨b0, b1, b2, b3⟩, ⟨c0, c1, c2, c3⟩⟩, ⟨x0, x1, x2, x3⟩, ⟨y0, y1, y2, y3⟩⟩ := l
              have h21 := fun W b (h : W.rangeAt b 0 (litC (k', ((a0, a1, a2, a3), (b0, b1, b2, b3), (c0, c1, c2, c3)), (x0, x1, x2, x3), (y0, y1, y2, y3))).toList) hB => held21_start (w := wr) (W := W) (b := b) h hB
              have j0 : (0 : Int) ≤ (j : Int) := by omega
              have j1 : (j : Int) < (bn : Int) := by omega
              have H21 := Lib.hid h21
              have HMa : Hid (∀ W, Calls Tryz.prog 46 #[.agg #[.string a0, .int .i64 a1, .string a2, .string a3, .string b0, .int .i64 b1, .string b2, .string b3, .string c0, .int .i64 c1, .string c2, .string c3]] W fun e w' => e = .returned (.int .i64 (sizeP ((a0, a1, a2, a3), (b0, b1, b2, b3), (c0, c1, c2, c3)))) ∧ Below W.heap.size W w') := Lib.hid (fun W => HSz.out ((a0, a1, a2, a3), (b0, b1, b2, b3), (c0, c1, c2, c3)) hvl.1 W)
              have HMb : Hid (∀ W, Calls Tryz.prog 46 #[.agg #[.string x0, .int .i64 x1, .string x2, .string x3, .string y0, .int .i64 y1, .string y2, .string y3, .string ⟨#[]⟩, .int .i64 0, .string ⟨#[]⟩, .string ⟨#[]⟩]] W fun e w' => e = .returned (.int .i64 (sizeP ((x0, x1, x2, x3), (y0, y1, y2, y3), zSl))) ∧ Below W.heap.size W w') := Lib.hid (fun W => HSz.out ((x0, x1, x2, x3), (y0, y1, y2, y3), zSl) ⟨hvl.2.1, hvl.2.2, zSl_vast⟩ W)
              have hza := sizeP_le ((a0, a1, a2, a3), (b0, b1, b2, b3), (c0, c1, c2, c3))
              have hzb := sizeP_le ((x0, x1, x2, x3), (y0, y1, y2, y3), zSl)
              have HLz : Hid (litSz (k', ((a0, a1, a2, a3), (b0, b1, b2, b3), (c0, c1, c2, c3)), (x0, x1, x2, x3), (y0, y1, y2, y3)) = sizeP ((a0, a1, a2, a3), (b0, b1, b2, b3), (c0, c1, c2, c3)) + sizeP ((x0, x1, x2, x3), (y0, y1, y2, y3), zSl)) := Lib.hid rfl
              clear h21 hl hr hvl
              obtain ⟨C, hCe⟩ : ∃ C, C = (litC (k', ((a0, a1, a2, a3), (b0, b1, b2, b3), (c0, c1, c2, c3)), (x0, x1, x2, x3), (y0, y1, y2, y3))).toList := ⟨_, rfl⟩
              rw [← hCe] at hC hone hlen H21
              have HSt := Lib.hid (fun Z hz => stored_lit wr Z hz C hlen 34)
              have hsz21 : (Tryz.prog.info? 34).map (·.size) = some C.length := by rw [hlen]; kernel_rfl
              have hsz21' : (Tryz.prog.info? 34).map (·.size) = some C.toArray.size := by rw [List.size_toArray, hlen]; kernel_rfl
              have hth' : (wr.alloc (.cells (litC zLi) 34)).there wr.heap.size 0 C.toArray.size := by
                have := (HSt.out (litC zLi) rfl).1
                rwa [← hlen, ← List.size_toArray] at this
              have HC := Lib.hid hC
              have HO := Lib.hid hone
              have HS := Lib.hid hsz21
              have HS' := Lib.hid hsz21'
              have HT := Lib.hid hth'
              clear hC hone hsz21 hsz21' hth' hlen hCe
              go_upto_region 10 with (first
                | (refine wpList_load_mid rfl 34 (.tmp 48) rfl gb (ob + j * 21) rfl C _ HC.out Tryz.underlying34 rfl HS.out ?_)
                | (refine wpList_store_mid rfl 34 (.tmp 8) (.tmp 49) rfl wr.heap.size 0 C.toArray rfl rfl HT.out HS'.out HO.out ?_))
              generalize hW : World.setCells (World.alloc wr (Obj.cells _ _)) _ _ _ = W2
              have hf : Stored wr W2 C := by rw [← hW]; exact (HSt.out _ rfl).2
              obtain ⟨hr2, hB2, hz2⟩ := hf
              have HS2 := Lib.hid (H21.out W2 _ hr2 hB2)
              clear hW hr2 hB2 hz2 HT HO HS' HC HSt HS H21 hcb
              obtain ⟨za, hza'⟩ : ∃ za, za = sizeP ((a0, a1, a2, a3), (b0, b1, b2, b3), (c0, c1, c2, c3)) := ⟨_, rfl⟩
              obtain ⟨zb, hzb'⟩ : ∃ zb, zb = sizeP ((x0, x1, x2, x3), (y0, y1, y2, y3), zSl) := ⟨_, rfl⟩
              rw [← hza'] at HMa HLz hza
              rw [← hzb'] at HMb HLz hzb
              clear hza' hzb' hz
              go_region_held3 (fun W' => W'.cell? ⟨wr.heap.size, 1, none⟩ = some (.string a0) ∧ W'.cell? ⟨wr.heap.size, 2, none⟩ = some (.int .i64 a1) ∧ W'.cell? ⟨wr.heap.size, 3, none⟩ = some (.string a2) ∧ W'.cell? ⟨wr.heap.size, 4, none⟩ = some (.string a3) ∧ W'.cell? ⟨wr.heap.size, 5, none⟩ = some (.string b0) ∧ W'.cell? ⟨wr.heap.size, 6, none⟩ = some (.int .i64 b1) ∧ W'.cell? ⟨wr.heap.size, 7, none⟩ = some (.string b2) ∧ W'.cell? ⟨wr.heap.size, 8, none⟩ = some (.string b3) ∧ W'.cell? ⟨wr.heap.size, 9, none⟩ = some (.string c0) ∧ W'.cell? ⟨wr.heap.size, 10, none⟩ = some (.int .i64 c1) ∧ W'.cell? ⟨wr.heap.size, 11, none⟩ = some (.string c2) ∧ W'.cell? ⟨wr.heap.size, 12, none⟩ = some (.string c3) ∧ W'.cell? ⟨wr.heap.size, 13, none⟩ = some (.string x0) ∧ W'.cell? ⟨wr.heap.size, 14, none⟩ = some (.int .i64 x1) ∧ W'.cell? ⟨wr.heap.size, 15, none⟩ = some (.string x2) ∧ W'.cell? ⟨wr.heap.size, 16, none⟩ = some (.string x3) ∧ W'.cell? ⟨wr.heap.size, 17, none⟩ = some (.string y0) ∧ W'.cell? ⟨wr.heap.size, 18, none⟩ = some (.int .i64 y1) ∧ W'.cell? ⟨wr.heap.size, 19, none⟩ = some (.string y2) ∧ W'.cell? ⟨wr.heap.size, 20, none⟩ = some (.string y3) ∧ Below wr.heap.size wr W') ((first | assumption | exact HS2.out | exact held21_step (by assumption) (by assumption))) (first | (go_at_call 46; (with_reducible refine (HMa.out _).mono ?_); rintro e w3 ⟨rfl, hB3⟩) | (go_at_call 46; (with_reducible refine (HMb.out _).mono ?_); rintro e w3 ⟨rfl, hB3⟩))
              all_goals
                rename_i hHeld
                have hb := hHeld.2.2.2.2.2.2.2.2.2.2.2.2.2.2.2.2.2.2.2.2
                clear hHeld
                have HBn2 := Lib.hid (HBx.out.trans (hb.mono HBx.out.size))
                have HW1 : Hid (IntKind.i64.wrap ((ss : Int) + za) = (ss : Int) + za) := Lib.hid (IntWalk.i64_in _ (by omega))
                have HW2 : Hid (IntKind.i64.wrap ((ss : Int) + za + zb) = (ss : Int) + za + zb) := Lib.hid (IntWalk.i64_in _ (by omega))
                clear hb
                go_wp2_with fail
                go_roundg (bn - (j + 1))
                case measure => omega
                case rel => exact ⟨j + 1, ss + za + zb, by rw [HW1.out, HW2.out]; rfl, by go_num, by omega, by omega, Nat.le_refl _, by omega, by rw [HTk.out, HLz.out, HSj.out]; omega, HBn2.out⟩
            · have d3 : decide ((j : Int) < (bn : Int)) = true := by simpa using hjl
              have d4 : decide ((j : Int) ≤ 200) = false := by simp; omega
              have d6 : decide ((200 : Int) < (bn : Int)) = true := by simp; omega
              by_cases h3 : 30000 < ss
              · have d5 : decide ((30000 : Int) < (ss : Int)) = true := by simp; omega
                go_wp2_with fail
                go_ret
                exact ⟨true, rfl, (fun h => by cases h), HB.out.trans (HBx.out.mono HB.out.size)⟩
              · have d5 : decide ((30000 : Int) < (ss : Int)) = false := by simp; omega
                go_wp2_with fail
                go_ret
                exact ⟨true, rfl, (fun h => by cases h), HB.out.trans (HBx.out.mono HB.out.size)⟩
          · obtain rfl : j = bn := by omega
            have d3 : decide ((j : Int) < (j : Int)) = false := by simp
            by_cases h3 : 30000 < ss
            · have d5 : decide ((30000 : Int) < (ss : Int)) = true := by simp; omega
              go_wp2_with fail
              go_ret
              exact ⟨true, rfl, (fun h => by cases h), HB.out.trans (HBx.out.mono HB.out.size)⟩
            · have d5 : decide ((30000 : Int) < (ss : Int)) = false := by simp; omega
              by_cases h6 : 200 < j
              · have d6 : decide ((200 : Int) < (j : Int)) = true := by simp; omega
                go_wp2_with fail
                go_ret
                exact ⟨true, rfl, (fun h => by cases h), HB.out.trans (HBx.out.mono HB.out.size)⟩
              · have d6 : decide ((200 : Int) < (j : Int)) = false := by simp; omega
                have HF : Hid (ss = totRs (rs.take (k + 1)) ∧ ∀ r ∈ rs.take (k + 1), r.2.length ≤ 200) := Lib.hid (by
                  rw [take_snocR HX.out]
                  refine ⟨?_, fun r hr => ?_⟩
                  · rw [totRs_snoc, ← HSu.out, HSj.out]
                    have e : x.2.take j = x.2 := by rw [HBn.out, List.take_length]
                    rw [e]
                    unfold totR
                    rw [← HSp.out]
                    omega
                  · rcases List.mem_append.1 hr with hr | hr
                    · exact HAl.out r hr
                    · rw [List.mem_singleton.1 hr, ← HBn.out]
                      omega)
                go_wp2_with fail
                go_roundg (n - (k + 1))
                case measure => omega
                case rel => exact ⟨k + 1, ss, rfl, by go_num, by omega, by omega, Nat.le_refl _, by omega, HF.out.1, HF.out.2, HB.out.trans (HBx.out.mono HB.out.size)⟩
      · have d1 : decide ((k : Int) < (n : Int)) = true := by simpa using hlt
        have d2 : decide ((k : Int) ≤ (most : Int)) = false := by simp; omega
        have h7 : most < n := by omega
        have d7 : decide ((most : Int) < (n : Int)) = true := by simp; omega
        have d7n : decide (most < n) = true := by simp; omega
        go_wp2_with fail
        go_ret
        exact ⟨true, rfl, (fun h => by cases h), HB.out⟩
    · obtain rfl : k = n := by omega
      have d1 : decide ((k : Int) < (k : Int)) = false := by simp
      by_cases h7 : most < k
      · have d7 : decide ((most : Int) < (k : Int)) = true := by simp; omega
        go_wp2_with fail
        go_ret
        exact ⟨true, rfl, (fun h => by cases h), HB.out⟩
      · have d7 : decide ((most : Int) < (k : Int)) = false := by simp; omega
        have HF : Hid (Meek rs) := Lib.hid (by
          have e : rs.take k = rs := by rw [HN.out, List.take_length]
          have h1 := HSu.out
          have h2 := HAl.out
          rw [e] at h1 h2
          exact ⟨by omega, h2⟩)
        go_wp2_with fail
        go_ret
        exact ⟨false, rfl, fun _ => ⟨by omega, HF.out⟩, HB.out⟩
end Go.Proofs.YtcikjgeanjnffaaGreatDoor

