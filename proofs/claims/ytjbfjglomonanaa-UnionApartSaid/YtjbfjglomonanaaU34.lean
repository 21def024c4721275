/-
  WHAT THE PROOF STANDS ON, a part of it: UnSame.
-/
import Derived.Test.YtjbfjglomonanaaU31
import Derived.Test.YtjbfjglomonanaaU33
import Derived.Test.YtjbfjglomonanaaU24
import Derived.Deep.RegionHeldLaw
/-
  THE LAW'S same: contract. (Written by tools/genunsame.py.)
-/

namespace Go.Proofs.Ytjbfjglomonanaa
open Go.RowKit
set_option linter.unusedVariables false
set_option linter.unusedSimpArgs false
attribute [local go_sem] Oper.semAt_some

theorem numsK_len (K : List (Nat × Nat)) : (numsK K).length = 2 * K.length := by
  induction K with
  | nil => rfl
  | cons x l ih =>
    unfold numsK at ih ⊢
    rw [List.flatMap_cons, List.length_append, ih]
    simp
    omega
/-- The numbers of the first k joins and of q of the next. -/
def cameK (K : List (Nat × Nat)) (k q : Nat) : List Nat := numsK (K.take k) ++ ((K[k]?.map fun z => [z.1, z.2]).getD []).take q
def MemAt (K : List (Nat × Nat)) (k q : Nat) (L : List Nat) : Prop := ∀ x, x ∈ L ↔ x ∈ cameK K k q
def nthQ (z : Nat × Nat) (q : Nat) : Nat := if q = 0 then z.1 else z.2
section
variable {K : List (Nat × Nat)} {k q : Nat} {L : List Nat} {z : Nat × Nat}
theorem came_next (hz : K[k]? = some z) (hq : q < 2) (x : Nat) : x ∈ cameK K k (q + 1) ↔ x ∈ cameK K k q ∨ x = nthQ z q := by
  unfold cameK nthQ
  rw [hz]
  obtain rfl | rfl : q = 0 ∨ q = 1 := by omega
  · simp
  · simp [or_assoc]
theorem MemAt.skip (h : MemAt K k q L) (hz : K[k]? = some z) (hq : q < 2) (hv : nthQ z q ∈ L) : MemAt K k (q + 1) L := fun x => by
  rw [came_next hz hq, h x]
  exact ⟨.inl, fun h1 => h1.elim id (fun e => by rw [e]; exact (h _).1 hv)⟩
theorem MemAt.put {M : List Nat} {v : Nat} (h : MemAt K k q L) (hz : K[k]? = some z) (hq : q < 2) (hm : ∀ x, x ∈ M ↔ x ∈ L ∨ x = v) (hv : v = nthQ z q) : MemAt K k (q + 1) M := fun x => by
  rw [came_next hz hq, hm, h x, hv]
theorem MemAt.next (h : MemAt K k 2 L) (hz : K[k]? = some z) : MemAt K (k + 1) 0 L := fun x => by
  have e : numsK (K.take (k + 1)) = numsK (K.take k) ++ [z.1, z.2] := by
    rw [List.take_add_one, hz]
    unfold numsK
    rw [List.flatMap_append]
    rfl
  rw [h x]
  unfold cameK
  rw [e, hz]
  simp
theorem MemAt.all (h : MemAt K K.length 0 L) (x : Nat) : x ∈ L ↔ x ∈ numsK K := by
  rw [h x]
  unfold cameK
  simp
theorem few_all (hr : L.Pairwise (· < ·)) (hm : MemAt K k q L) (hk : K.length ≤ 60) : L.length ≤ 1000 := by
  have := nodup_le (hr.imp fun {a b} h => Nat.ne_of_lt h) fun x hx => (hm x).1 hx
  unfold cameK at this
  rw [List.length_append, numsK_len, List.length_take, List.length_take] at this
  have h2 : ((K[k]?.map fun z => [z.1, z.2]).getD []).length ≤ 2 := by cases K[k]? <;> simp
  omega
end
theorem run_func_nil11 (fn : Fn) (first cap : Array Value) (w : World) : (binOp .eql 42 (.func fn first cap) .nilFunc).run Try.prog w = .ok (.bool false) w := by kernel_rfl
/-- A post that no panic meets. -/
def calmQ (Q : Exit → Act → World → Prop) : Exit → Act → World → Prop
  | .panic _, _, _ => False
  | .normal, a, w => Q .normal a w
  | .ret, a, w => Q .ret a w
  | .exit i, a, w => Q (.exit i) a w
  | .goto i, a, w => Q (.goto i) a w
  | .outgrown, a, w => Q .outgrown a w
theorem calm_le {Q : Exit → Act → World → Prop} {e : Exit} {a : Act} {w : World} (h : calmQ Q e a w) : Q e a w := by
  cases e <;> first | exact h | exact h.elim
/-- Those of a list that stand for their cliques. -/
def firstsJ (J : List (Nat × Nat)) (A : List Nat) : List Nat := A.filter fun x => leastJ J x == x
theorem firstsJ_next {J : List (Nat × Nat)} {A : List Nat} {p v : Nat} (h : A[p]? = some v) : firstsJ J (A.take (p + 1)) = if leastJ J v = v then firstsJ J (A.take p) ++ [v] else firstsJ J (A.take p) := by
  unfold firstsJ
  rw [List.take_add_one, h, List.filter_append]
  by_cases e : leastJ J v = v
  · rw [if_pos e]
    simp [e]
  · rw [if_neg e]
    simp [e]
set_option maxRecDepth 100000 in
set_option maxHeartbeats 32000000 in
theorem same_any {w : World} {S : Nat → Prop} {pb : Nat} {J K : List (Nat × Nat)} {ao : Option Addr} {cap : Nat} (hU : UnI w S pb J) (hE : Eff J K) (hP : PairR w ao K) (hJ : J.length ≤ 60) :
    Calls Try.prog 11 #[unP pb, .slice ao K.length cap] w fun e w' => e = .returned (.bool true) ∧ Below w.heap.size w w' := by
  have hb1 := (Below.refl w.heap.size w).alloc (Nat.le_refl _) (.cells #[.slice ao K.length cap] 27)
  have d1 := heap_alloc_new w (.cells #[.slice ao K.length cap] 27)
  have s1 : (w.alloc (.cells #[.slice ao K.length cap] 27)).heap.size = w.heap.size + 1 := World.size_alloc _ _
  have d2 := heap_alloc_new (w.alloc (.cells #[.slice ao K.length cap] 27)) (.cells #[.bool false] 4)
  have d1b := (Below.heap_alloc (w.alloc (.cells #[.slice ao K.length cap] 27)) (.cells #[.bool false] 4) w.heap.size (by omega)).trans d1
  have hb2 := hb1.alloc (by omega) (.cells #[.bool false] 4)
  have s2 : ((w.alloc (.cells #[.slice ao K.length cap] 27)).alloc (.cells #[.bool false] 4)).heap.size = w.heap.size + 2 := by rw [World.size_alloc, s1]
  rw [s1] at d2
  obtain ⟨w0, hw0⟩ : ∃ w0, w0 = (w.alloc (.cells #[.slice ao K.length cap] 27)).alloc (.cells #[.bool false] 4) := ⟨_, rfl⟩
  rw [← hw0] at d2 d1b hb2 s2
  obtain ⟨n0, hn0⟩ : ∃ n0, n0 = w.heap.size := ⟨_, rfl⟩
  rw [← hn0] at d1b d2 s2
  obtain ⟨n, hn⟩ : ∃ n, n = K.length := ⟨_, rfl⟩
  have hKJ : n ≤ 60 := by have := hE.few; omega
  rw [← hn] at d1b hw0
  have HW0 := Lib.hid hw0
  have HN0 := Lib.hid hn0
  have HN := Lib.hid hn
  have HS := Lib.hid s2
  have HB0 := Lib.hid hb2
  have HD1 := Lib.hid d1b
  have HD2 := Lib.hid d2
  have HU := Lib.hid (hU.below hb2)
  have HP := Lib.hid (hP.below hb2)
  have HE := Lib.hid hE
  have HJ := Lib.hid hJ
  have HC3 : Hid (∀ U, Below w0.heap.size w0 U → U.cell? ⟨n0, 0, none⟩ = some (.slice ao n cap)) := Lib.hid (fun U hU => cell_in ((hU.block n0 (Array.getElem?_eq_some_iff.1 d1b).1).trans d1b) rfl)
  have HPr : Hid (∀ U, Below w0.heap.size w0 U → PairR U ao K) := Lib.hid (fun U hU => HP.out.below hU)
  rw [← hn]
  clear hU hP hE hJ hb1 d1 s1 d2 d1b hb2 s2 hw0 hn
  refine (callsIn_wide (n := 9)).1 (callsIn_of_wp_marks Try.func11 rfl trivial (wpIn_mono (wpIn_wide.2 ?_) (fun e a w h => calm_le (Q := _) h)) rfl)
  simp only [Try.ntmps11, List.size_toArray, List.length_cons, List.length_nil, Nat.reduceAdd, Nat.reduceSub, Array.replicate_succ, Array.replicate_zero, List.push_toArray, List.append_toArray, List.nil_append, List.cons_append]
  go_upto_region 1 with fail
  rw [← hn0, ← HW0.out]
  clear hn0
  go_wp2
  go_loopg [5, 6] n (fun gg s i wr => ∃ (k : Nat) (L : List Nat) (aoL : Option Addr) (capL : Nat), k ≤ n ∧ n - k ≤ gg ∧ i = .int .i64 (k : Int) ∧ s = .slice aoL L.length capL ∧ ElR keyU wr aoL L ∧ L.Pairwise (· < ·) ∧ MemAt K k 0 L ∧ Below w0.heap.size w0 wr)
  case atStart => exact ⟨0, [], none, 0, by omega, by omega, rfl, rfl, (fun h => (by simp at h)), List.Pairwise.nil, (fun x => by simp [cameK, numsK]), Below.refl _ _⟩
  case round =>
    obtain ⟨k, L, aoL, capL, hk, hg, rfl, rfl, hel, hrise, hmem, hbe⟩ := hrel
    have HEl := Lib.hid hel
    have HRi := Lib.hid hrise
    have HMe := Lib.hid hmem
    have HBe := Lib.hid hbe
    have c3 := HC3.out wr hbe
    clear hel hrise hmem hbe
    obtain rfl | hkn : k = n ∨ k < n := by omega
    · have HAll : Hid (∀ x, x ∈ L ↔ x ∈ numsK K) := Lib.hid (by
        have := HMe.out
        rw [HN.out] at this
        exact this.all)
      have HLl := Lib.hid (few_all HRi.out HMe.out (by have := HN.out; omega))
      clear HMe
      obtain ⟨w1, hw1⟩ : ∃ w1, w1 = wr := ⟨_, rfl⟩
      subst hw1
      have hb3 := (Below.refl w1.heap.size w1).alloc (Nat.le_refl _) (.cells #[.slice none 0 0] 33)
      have d3 := heap_alloc_new w1 (.cells #[.slice none 0 0] 33)
      obtain ⟨n8, hn8⟩ : ∃ n8, n8 = w1.heap.size := ⟨_, rfl⟩
      obtain ⟨w3, hw3⟩ : ∃ w3, w3 = w1.alloc (.cells #[.slice none 0 0] 33) := ⟨_, rfl⟩
      rw [← hw3] at hb3 d3
      rw [← hn8] at hb3 d3
      have hsz3 : w3.heap.size = n8 + 1 := by rw [hw3, hn8]; exact World.size_alloc _ _
      have HN8 := Lib.hid hn8
      have HW3 := Lib.hid hw3
      have HS3 := Lib.hid hsz3
      have HB3 := Lib.hid hb3
      have HD3 := Lib.hid d3
      have HLow : Hid (∀ U, Below n8 w1 U → Below w0.heap.size w0 U ∧ ElR keyU U aoL L ∧ UnI U S pb J) := Lib.hid (fun U hU => by
        rw [HN8.out] at hU
        have h1 := HBe.out.trans (hU.mono HBe.out.size)
        exact ⟨h1, HEl.out.below hU, HU.out.below h1⟩)
      obtain ⟨m, hm⟩ : ∃ m, m = L.length := ⟨_, rfl⟩
      have HM := Lib.hid hm
      clear hb3 d3 hsz3 hw3
      go_upto_region 11 with fail
      rw [← HW3.out, ← HN8.out, ← HM.out]
      clear hn8 c3 hm
      go_wp2
      go_loopg [9] m (fun gg i wy => ∃ (p : Nat) (aoF : Option Addr) (capF : Nat), p ≤ m ∧ m - p ≤ gg ∧ i = .int .i64 (p : Int) ∧ wy.heap[n8]? = some (.cells #[.slice aoF (firstsJ J (L.take p)).length capF] 33 (0, 0)) ∧ OwnR keyU 23 (n8 + 1) wy aoF capF (firstsJ J (L.take p)) ∧ Below n8 w1 wy)
      case atStart => exact ⟨0, none, 0, by omega, by omega, rfl, HD3.out, OwnR.nil, HB3.out⟩
      case round =>
        obtain ⟨p, aoF, capF, hp, hgp, rfl, hblk, hown, hbe⟩ := hrel
        obtain ⟨wy, hwy⟩ : ∃ wy, wy = wr := ⟨_, rfl⟩
        subst hwy
        have HBk := Lib.hid hblk
        have HOw := Lib.hid hown
        have HBy := Lib.hid hbe
        clear hblk hown hbe
        obtain rfl | hpm : p = m ∨ p < m := by omega
        · have htk : L.take p = L := List.take_of_length_le (by have := HM.out; omega)
          obtain ⟨fs, hfs⟩ : ∃ fs, fs = firstsJ J L := ⟨_, rfl⟩
          obtain ⟨fl, hfl⟩ : ∃ fl, fl = fs.length := ⟨_, rfl⟩
          have hbk := HBk.out
          have how := HOw.out
          rw [htk, ← hfs] at hbk how
          rw [← hfl] at hbk
          have hfl9 : fl ≤ 1000 := by
            rw [hfl, hfs]
            have h1 : (firstsJ J L).length ≤ L.length := List.length_filter_le _ _
            have := HLl.out
            omega
          have HLo4 := HLow.out wy HBy.out
          have hcnt := count_firsts HE.out HRi.out HAll.out
          have HLen : Hid (∀ U, U = wy.drew → Calls Try.prog 15 #[unP pb] U fun e w' => e = .returned (.int .i64 (fl : Int)) ∧ U = w') := Lib.hid (by
            rintro U rfl
            have h1 := (HLow.out wy.drew HBy.out.drew).2.2.len hcnt
            refine h1.mono ?_
            rintro e w' ⟨rfl, rfl⟩
            exact ⟨by rw [hfl, hfs]; rfl, rfl⟩)
          obtain ⟨w4, hw4⟩ : ∃ w4, w4 = wy.drew := ⟨_, rfl⟩
          have HBw4 : Hid (Below n8 w1 w4) := Lib.hid (by rw [hw4]; exact HBy.out.drew)
          have HBk4 : Hid (w4.heap[n8]? = some (.cells #[.slice aoF fl capF] 33 (0, 0))) := Lib.hid (by rw [hw4]; exact hbk)
          have HOw4 : Hid (OwnR keyU 23 (n8 + 1) w4 aoF capF fs) := Lib.hid (by rw [hw4]; exact how.below (Below.refl _ _).drew)
          have c8 : w4.cell? ⟨n8, 0, none⟩ = some (.slice aoF fl capF) := cell_in HBk4.out rfl
          rw [hw4] at c8
          have e6 : ((fl : Int) != (fl : Int)) = false := by simp
          have HAl := Lib.hid ((HLow.out w4 HBw4.out).2.2.all (by have := HJ.out; omega))
          have HFs := Lib.hid hfs
          have HFl := Lib.hid hfl
          have HW4 := Lib.hid hw4
          clear htk hbk how HBk HOw HLo4 hcnt hfs hfl hw4
          have hfn := run_func_nil11
          go_wp2
          go_upto_region 19 with fail
          go_region_held3 (fun W' => W' = wy.drew) ((first | assumption | rfl)) ((go_at_call 15; (with_reducible refine (HLen.out _ (by assumption)).mono ?_); rintro e y1 ⟨rfl, rfl⟩))
          rw [← HW4.out]
          clear HLen
          go_wp2_with (go_at_call 17; refine HAl.out.mono ?_; rintro e w5 ⟨ab, ao9, cap9, xs, rfl, hq, hp, hlow, hb5⟩; replace hq := Lib.hid hq; replace hp := Lib.hid hp; replace hlow := Lib.hid hlow; replace hb5 := Lib.hid hb5)
          have htell : tellL xs = fs.map fun r => (r, cliqueJ K r) := by
            rw [HFs.out]
            exact all_firsts HE.out hp.out HRi.out HAll.out
          have hxl : xs.length = fl := by
            have := congrArg List.length htell
            unfold tellL at this
            rw [List.length_map, List.length_map] at this
            rw [this, HFl.out]
          have hn84 : n8 < w4.heap.size := (Array.getElem?_eq_some_iff.1 HBk4.out).1
          have hn85 : n8 < w5.heap.size := Nat.lt_of_lt_of_le hn84 hb5.out.size
          have HB5 : Hid (Below n8 w1 w5) := Lib.hid (HBw4.out.trans (hb5.out.mono (by omega)))
          have HN85 := Lib.hid hn85
          have HUp : Hid (∀ Wx, Below w5.heap.size w5 Wx → Below n8 w1 Wx ∧ Wx.cell? ⟨n0, 0, none⟩ = some (.slice ao k cap) ∧ Wx.cell? ⟨n8, 0, none⟩ = some (.slice aoF fl capF) ∧ ElR keyU Wx aoF fs) := Lib.hid (fun Wx h => by
            have h1 : Below n8 w1 Wx := HB5.out.trans (h.mono (by omega))
            have h2 := hb5.out.trans (h.mono hb5.out.size)
            exact ⟨h1, HC3.out Wx (HLow.out Wx h1).1, cell_in ((h2.block n8 hn84).trans HBk4.out) rfl, HOw4.out.elR.below h2⟩)
          have HCl : Hid (∀ (r : Nat) (U : World), Below n8 w1 U → Calls Try.prog 10 #[.slice ao k cap, .int .u32 (r : Int)] U fun e w' => ∃ a9 c9, e = .returned (.slice a9 (cliqueJ K r).length c9) ∧ ElR keyU w' a9 (cliqueJ K r) ∧ Below U.heap.size U w') := Lib.hid (fun r U hU => by
            have h8 := refClique_any (cap := cap) r (HPr.out U (HLow.out U hU).1) (by have := HN.out; omega) HE.out.nz
            rw [← HN.out] at h8
            exact h8)
          have HEq : Hid (∀ (M : List Nat) (ao bo : Option Addr) (ca cb : Nat) (U : World), M.length ≤ 1000000000 → NumsR U ao M → ElR keyU U bo M → Calls Try.prog 12 #[.slice ao M.length ca, .slice bo M.length cb] U fun e w' => e = .returned (.bool true) ∧ Below U.heap.size U w') := Lib.hid (fun M ao bo ca cb U hM h1 h2 => by
            refine (equal_any (ca := ca) (cb := cb) h1 (show NumsR U bo M from h2) hM).mono ?_
            rintro e w' ⟨rfl, h⟩
            exact ⟨by simp, h⟩)
          have HTell := Lib.hid htell
          have HXl := Lib.hid hxl
          clear htell hxl hn84 hn85 hfn e6 HAl
          refine wp_loop_ghost_k (fun g a wr => ∃ (q : Nat) (Ds : List Nat) (u13 u14 u15 u100 u101 u102 u103 u104 u105 u106 u107 u108 u109 u110 u111 u112 u113 u114 u115 u116 u117 u118 u119 u120 u121 u122 u123 u124 u125 u126 u127 u128 u129 u130 u131 u132 : Value), q ≤ 2 ∧ 2 - q ≤ g ∧ Ds.length = q ∧ Ds.Nodup ∧ a = { tmps := #[unP pb, .slice ao k cap, undef, .pointer (some ⟨n0, 0, none⟩), .pointer (some ⟨n0 + 1, 0, none⟩), .slice aoL p capL, .int .i64 (k : Int), u7, .pointer (some ⟨n8, 0, none⟩), .int .i64 (p : Int), u10, .func (.func 28) #[] #[.pointer (some ⟨ab, 0, none⟩)], .int .i64 (q : Int), u13, u14, u15, .int .i64 (k : Int), .slice ao k cap, .int .i64 (k : Int), .bool false, u20, u21, u22, u23, u24, u25, u26, u27, u28, u29, u30, u31, u32, u33, u34, u35, u36, u37, u38, u39, u40, u41, u42, .int .i64 (p : Int), .slice aoL p capL, .int .i64 (p : Int), .bool false, u47, u48, u49, u50, u51, u52, u53, u54, u55, u56, u57, u58, u59, u60, u61, u62, u63, u64, u65, u66, u67, u68, u69, u70, u71, u72, u73, u74, u75, u76, u77, u78, u79, u80, u81, u82, u83, u84, u85, u86, u87, u88, u89, u90, unP pb, .int .i64 (fl : Int), .slice aoF fl capF, .int .i64 (fl : Int), .bool false, unP pb, .func (.func 28) #[] #[.pointer (some ⟨ab, 0, none⟩)], .func (.func 28) #[] #[.pointer (some ⟨ab, 0, none⟩)], .bool false, u100, u101, u102, u103, u104, u105, u106, u107, u108, u109, u110, u111, u112, u113, u114, u115, u116, u117, u118, u119, u120, u121, u122, u123, u124, u125, u126, u127, u128, u129, u130, u131, u132], defers := Ds.map fun D => { target := .collected D, args := #[] } } ∧ Below w5.heap.size w5 wr ∧ ∀ D ∈ Ds, w5.heap.size ≤ D ∧ wr.heap[D]? = some (.deferred (some []))) 2
            ⟨0, [], undef, undef, undef, undef, undef, undef, undef, undef, undef, undef, undef, undef, undef, undef, undef, undef, undef, undef, undef, undef, undef, undef, undef, undef, undef, undef, undef, undef, undef, undef, undef, undef, undef, undef, undef, undef, by omega, by omega, rfl, List.nodup_nil, rfl, Below.refl _ _, fun D hD => absurd hD (by simp)⟩ ?round
          case round =>
            intro gk a wr hrel J9 K9 hJ9 hK9
            obtain ⟨q, Ds, u13, u14, u15, u100, u101, u102, u103, u104, u105, u106, u107, u108, u109, u110, u111, u112, u113, u114, u115, u116, u117, u118, u119, u120, u121, u122, u123, u124, u125, u126, u127, u128, u129, u130, u131, u132, hq2, hg2, hDl, hDn, rfl, hbr, hDs⟩ := hrel
            dsimp only
            have HBr := Lib.hid hbr
            have HDs := Lib.hid hDs
            have HDn := Lib.hid hDn
            have HDl := Lib.hid hDl
            clear hbr hDs hDn hDl
            by_cases hk2 : q < 2
            · have e1 : decide ((q : Int) < 2) = true := by simp; omega
              have s13 : (wr.alloc (.cells #[.int .i64 0] 3)).heap.size = wr.heap.size + 1 := World.size_alloc _ _
              have d13 := heap_alloc_new wr (.cells #[.int .i64 0] 3)
              have hba := (Below.refl wr.heap.size wr).alloc (Nat.le_refl _) (.cells #[.int .i64 0] 3)
              obtain ⟨wx, hwx⟩ : ∃ wx, wx = wr.alloc (.cells #[.int .i64 0] 3) := ⟨_, rfl⟩
              rw [← hwx] at s13 d13 hba
              obtain ⟨b13, hb13⟩ : ∃ b13, b13 = wr.heap.size := ⟨_, rfl⟩
              rw [← hb13] at d13
              have HWx := Lib.hid hwx
              have HB13 := Lib.hid hb13
              have HSx := Lib.hid s13
              have HBa := Lib.hid hba
              clear hwx hb13 s13 hba
              go_upto_region 28 with fail
              rw [← HWx.out, ← HB13.out]
              go_wp2
              refine (wpIn_wide (n := 9)).1 ?_
              have hbx : Below w5.heap.size w5 wx := HBr.out.trans (HBa.out.mono HBr.out.size)
              have hb13 : w5.heap.size ≤ b13 ∧ b13 < wx.heap.size := by rw [HSx.out, HB13.out]; have := HBr.out.size; omega
              have hsq := all_seq (9 - 1) (by omega) ab ao9 cap9 xs (by have := HXl.out; omega) (fun _ => False) (fun j => j = b13) wx (fun j h => h.elim) (fun j hj => by rw [hj]; exact hb13.2)
              have HSq := Lib.hid hsq
              clear hsq
              refine wpIn_rangeW (F := Fence.wide) (n := 9) rfl (by omega) (gf := 28) (lb := #[.pointer (some ⟨ab, 0, none⟩)]) rfl trivial (enters_of Try.func28 (by kernel_rfl) rfl) HSq.out (Below.refl _ _) (fun _ => rfl) ?ownT ?ownN
                (fun st S' Wx => Below w5.heap.size w5 Wx ∧ Wx.cell? ⟨b13, 0, none⟩ = some (.int .i64 (st : Int)) ∧ Wx.frozen? ⟨b13, 0, none⟩ = false ∧ ∀ D ∈ Ds, Wx.heap[D]? = some (.deferred (some []))) ?ownI (fun _ _ => False) ?ownX (fun j hj => by rw [hj]; exact hb13.2) (fun j hj => hj.elim)
                ⟨hbx, cell_in d13 rfl, free_in d13 0, fun D hD => (HBa.out.block D (Array.getElem?_eq_some_iff.1 (HDs.out D hD).2).1).trans (HDs.out D hD).2⟩ (hq.out.below hbx)
                (fun x a' _ => a' = { tmps := #[unP pb, .slice ao k cap, undef, .pointer (some ⟨n0, 0, none⟩), .pointer (some ⟨n0 + 1, 0, none⟩), .slice aoL p capL, .int .i64 (k : Int), u7, .pointer (some ⟨n8, 0, none⟩), .int .i64 (p : Int), u10, .func (.func 28) #[] #[.pointer (some ⟨ab, 0, none⟩)], .int .i64 (q : Int), .pointer (some ⟨b13, 0, none⟩), .int .u32 (x.least : Int), .slice x.ao x.ns.length x.cap, .int .i64 (k : Int), .slice ao k cap, .int .i64 (k : Int), .bool false, u20, u21, u22, u23, u24, u25, u26, u27, u28, u29, u30, u31, u32, u33, u34, u35, u36, u37, u38, u39, u40, u41, u42, .int .i64 (p : Int), .slice aoL p capL, .int .i64 (p : Int), .bool false, u47, u48, u49, u50, u51, u52, u53, u54, u55, u56, u57, u58, u59, u60, u61, u62, u63, u64, u65, u66, u67, u68, u69, u70, u71, u72, u73, u74, u75, u76, u77, u78, u79, u80, u81, u82, u83, u84, u85, u86, u87, u88, u89, u90, unP pb, .int .i64 (fl : Int), .slice aoF fl capF, .int .i64 (fl : Int), .bool false, unP pb, .func (.func 28) #[] #[.pointer (some ⟨ab, 0, none⟩)], .func (.func 28) #[] #[.pointer (some ⟨ab, 0, none⟩)], .bool false, .int .i64 (q : Int), .bool true, u102, u103, .func (.func 28) #[] #[.pointer (some ⟨ab, 0, none⟩)], .int .u32 (x.least : Int), .slice x.ao x.ns.length x.cap, u107, u108, u109, u110, u111, u112, u113, u114, u115, u116, u117, u118, u119, u120, u121, u122, u123, u124, u125, u126, u127, u128, u129, u130, u131, u132], defers := [] }) (fun _ _ _ _ _ _ _ hs _ _ => hs) ?assign ?body ?done ?stop
              case ownT => exact fun g st S' A C row hq hg hr => hq.own hg (fun r e => (hr r e).2)
              case ownN =>
                rintro st x st' _ S' A C row ⟨n1, n2, n3⟩ hg hr
                refine ⟨n1, n2, fun h0 => ?_⟩
                obtain ⟨g, o, e, hc⟩ := n3 h0
                exact ⟨g, o, e, fun j v hj => cell_kept (hc j v hj) hg (fun r e => (hr r e).2)⟩
              case ownI =>
                rintro st S' A C row ⟨h2, h3, h4, h5⟩ hg hr
                refine ⟨⟨hg.os.trans h2.os, hg.tape.trans h2.tape, hg.output.trans h2.output, Nat.le_trans h2.size hg.size, fun j hj => (hg.block j (by have := h2.size; omega) (fun e => by have := (hr _ e.symm).1; omega)).trans (h2.block j hj)⟩, cell_kept h3 hg (fun r e => (hr r e).2), (frozen_kept h3 hg (fun r e => (hr r e).2)).trans h4, fun D hD => ?_⟩
                have hDl : D < wx.heap.size := Nat.lt_of_lt_of_le (Array.getElem?_eq_some_iff.1 (HDs.out D hD).2).1 HBa.out.size
                exact (hg.block D (Array.getElem?_eq_some_iff.1 (h5 D hD)).1 (fun e => by have := (hr _ e.symm).1; omega)).trans (h5 D hD)
              case ownX => exact fun c st S' A C row h hg hr => h.elim
              case assign =>
                intro l x Wx Kx hle hKx
                dsimp only
                gi_wp2
                exact hKx _ _ (Below.refl _ _) rfl
              case body =>
                rintro l g st x st' S' a' Wx hl ⟨rr, hrr⟩ hSl ⟨h2, h3, h4, h5⟩ hTx ⟨rfl, hLs, hNx⟩ rfl
                rw [HTell.out, List.getElem?_map] at hLs
                obtain ⟨r, hr, hrx⟩ := Option.map_eq_some_iff.1 hLs
                obtain ⟨xl, xns, xao, xcap⟩ := x
                dsimp only at *
                cases hrx
                have hstl : st < fl := by rw [HFl.out]; exact (List.getElem?_eq_some_iff.1 hr).1
                obtain ⟨hU1, c3, c8, hEl⟩ := HUp.out Wx h2
                obtain ⟨gF, oF, rfl, hcF⟩ := hEl (by rw [← HFl.out]; omega)
                have xr := hcF st r hr
                have t0 : decide ((st : Int) ≥ (fl : Int)) = false := by simp; omega
                have t0' : decide ((fl : Int) ≤ (st : Int)) = false := by simp; omega
                have t0n : decide (fl ≤ st) = false := by simp; omega
                have j0 : (0 : Int) ≤ (st : Int) := by omega
                have j1 : (st : Int) < (fl : Int) := by omega
                have j4 : st + 1 ≤ 1000000001 := by omega
                have hrn : ((r : Int) != (r : Int)) = false := by simp
                have HCx := Lib.hid (HCl.out r Wx hU1)
                have HMl : Hid ((cliqueJ K r).length ≤ 1000000000) := Lib.hid (cliqueJ_few K r (by have := HN.out; omega))
                have HNx := Lib.hid hNx
                have HZ : Hid (∀ U, Below Wx.heap.size Wx U → U.cell? ⟨b13, 0, none⟩ = some (.int .i64 (st : Int)) ∧ U.frozen? ⟨b13, 0, none⟩ = false) := Lib.hid (fun U hU => by
                  have hk := hU.block b13 (World.block_lt_of_cell? _ _ h3)
                  exact ⟨(World.cell?_of_block (a := ⟨b13, 0, none⟩) hk).trans h3, by
                    unfold World.frozen? at h4 ⊢
                    dsimp only at h4 ⊢
                    rw [hk]
                    exact h4⟩)
                have HTx := Lib.hid hTx
                have H2 := Lib.hid h2
                have H5 := Lib.hid h5
                have HDb : Hid (∀ D ∈ Ds, D ≠ b13) := Lib.hid (fun D hD e => by
                  have := (Array.getElem?_eq_some_iff.1 (HDs.out D hD).2).1
                  rw [e, HB13.out] at this
                  omega)
                have HAb : Hid (∀ U : World, AllQ ab ao9 cap9 xs U → Below Wx.heap.size Wx U → AllQ ab ao9 cap9 xs (U.setCell ⟨b13, 0, none⟩ (.int .i64 ((st : Int) + 1)))) := Lib.hid (fun U _ hU => by
                  have hq0 := hq.out
                  refine (show AllQ ab ao9 cap9 xs (U.setCell ⟨b13, 0, none⟩ (.int .i64 ((st : Int) + 1))) from hq0.keep fun a v hc => ?_)
                  have hal := World.block_lt_of_cell? _ a hc
                  have hne : a.block ≠ b13 := by omega
                  have hbU := H2.out.trans (hU.mono H2.out.size)
                  exact (World.cell?_of_block (a := a) (Below.heap_setCell _ _ _ _ hne)).trans ((hbU.cell (p := a) hal).trans hc))
                clear hLs hr hEl hcF hNx hTx h2 h5 hU1 hbx hSl
                gi_wp2_with (first
                  | (refine ⟨trivial, ?_⟩; gi_at_call 10; refine (CallsIn.inRound l (callsIn_wide.2 HCx.out)).mono ?_; rintro e W3 ⟨a9, c9, rfl, hE9, hB9⟩; have HEq3 := Lib.hid (HEq.out (cliqueJ K r) xao a9 xcap c9 W3 HMl.out (HNx.out.below hB9) hE9); replace hB9 := Lib.hid hB9; clear hE9)
                  | (refine ⟨trivial, ?_⟩; gi_at_call 12; refine (CallsIn.inRound l (callsIn_wide.2 HEq3.out)).mono ?_; rintro e W4 ⟨rfl, hB4⟩; obtain ⟨z13, z14⟩ := HZ.out W4 (hB9.out.trans (hB4.mono hB9.out.size)); replace hB4 := Lib.hid hB4))
                have hB : Below Wx.heap.size Wx W4 := hB9.out.trans (hB4.out.mono hB9.out.size)
                have hcast : (Value.int .i64 ((st + 1 : Nat) : Int)) = .int .i64 ((st : Int) + 1) := by simp
                refine ⟨(Turned.of_below hB).trans (Turned.set (a := ⟨b13, 0, none⟩) (.inr rfl) _), fun _ => False, ⟨(H2.out.trans (hB.mono H2.out.size)).setCell (p := ⟨b13, 0, none⟩) hb13.1 _, ?_, ?_, fun D hD => ?_⟩, HAb.out W4 (HTx.out.below hB) hB, fun j hj => hj.elim⟩
                · rw [hcast]
                  exact World.cell?_setCell_same' _ _ _ (by rw [z13]; rfl)
                · rw [World.frozen?_setCell]
                  exact z14
                · exact (Below.heap_setCell _ _ _ _ (HDb.out D hD)).trans ((hB.block D (Array.getElem?_eq_some_iff.1 (H5.out D hD)).1).trans (H5.out D hD))
              case done =>
                rintro D st S' Wx hD hdn ⟨h2, h3, h4, h5⟩ hTx hSD hK2
                obtain ⟨hU1, c3, c8, hEl⟩ := HUp.out Wx h2
                rw [hdn, HXl.out] at h3
                have e7 : ((fl : Int) != (fl : Int)) = false := by simp
                have HK1 : Hid ((Value.int .i64 ((q : Int) + 1)) = .int .i64 ((q + 1 : Nat) : Int)) := Lib.hid (by simp)
                have HD3 : Hid (∀ D' ∈ D :: Ds, w5.heap.size ≤ D' ∧ Wx.heap[D']? = some (.deferred (some []))) := Lib.hid (fun D' hD' => by
                  rcases List.mem_cons.1 hD' with rfl | hD'
                  · exact ⟨by have := hbx.size; omega, hK2⟩
                  · exact ⟨(HDs.out D' hD').1, h5 D' hD'⟩)
                have HN3 : Hid ((D :: Ds).Nodup) := Lib.hid (List.nodup_cons.2 ⟨fun hm => by
                  have := (Array.getElem?_eq_some_iff.1 (HDs.out D hm).2).1
                  have := HSx.out
                  omega, HDn.out⟩)
                have H2 := Lib.hid h2
                have i3 : q + 1 ≤ 3 := by omega
                clear h5 hTx hSD h2 hdn hbx hb13 d13 hU1 hEl
                go_wp2
                rw [HK1.out]
                exact Handed.intro (2 - (q + 1)) (by omega) (hJ9 _ _ _ ⟨q + 1, D :: Ds, _, _, _, _, _, _, _, _, _, _, _, _, _, _, _, _, _, _, _, _, _, _, _, _, _, _, _, _, _, _, _, _, _, _, _, _, by omega, Nat.le_refl _, by rw [List.length_cons, HDl.out], HN3.out, rfl, H2.out, HD3.out⟩)
              case stop =>
                rintro D c Wx hD h hK2
                exact h.elim
            · have e1 : decide ((q : Int) < 2) = false := by simp; omega
              obtain ⟨D2, D1, rfl⟩ : ∃ D2 D1, Ds = [D2, D1] := by
                have := HDl.out
                match Ds, this with
                | [D2, D1], _ => exact ⟨D2, D1, rfl⟩
                | [], h => simp at h; omega
                | [_], h => simp at h; omega
                | _ :: _ :: _ :: _, h => simp at h; omega
              obtain ⟨hU1, _, _, _⟩ := HUp.out wr HBr.out
              have hL1 := (HLow.out wr hU1).1
              have hwr0 : wr.heap[n0 + 1]? = some (.cells #[.bool false] 4 (0, 0)) := (hL1.block (n0 + 1) (Array.getElem?_eq_some_iff.1 HD2.out).1).trans HD2.out
              have x2 : wr.cell? ⟨n0 + 1, 0, none⟩ = some (.bool false) := cell_in hwr0 rfl
              have f2 : ∀ i, wr.frozen? ⟨n0 + 1, i, none⟩ = false := fun i => free_in hwr0 i
              have d2 := HDs.out D2 (by simp)
              have d1 := HDs.out D1 (by simp)
              have hne : D1 ≠ D2 := fun e => by
                have := HDn.out
                rw [e] at this
                simp at this
              have hnD : n0 + 1 < w5.heap.size := by
                have h1 := (HLow.out w5 HB5.out).1.size
                have := HS.out
                omega
              have hwn : w.heap.size ≤ n0 + 1 := by rw [HN0.out]; omega
              have HEe : Hid ((wr.setCell ⟨n0 + 1, 0, none⟩ (.bool true)).heap[D2]? = some (.deferred (some [])) ∧ ((wr.setCell ⟨n0 + 1, 0, none⟩ (.bool true)).putObj D2 (.deferred none)).heap[D1]? = some (.deferred (some [])) ∧ (((wr.setCell ⟨n0 + 1, 0, none⟩ (.bool true)).putObj D2 (.deferred none)).putObj D1 (.deferred none)).cell? ⟨n0 + 1, 0, none⟩ = some (.bool true) ∧ Below w.heap.size w (((wr.setCell ⟨n0 + 1, 0, none⟩ (.bool true)).putObj D2 (.deferred none)).putObj D1 (.deferred none))) := Lib.hid (by
                have k2 : (wr.setCell ⟨n0 + 1, 0, none⟩ (.bool true)).heap[D2]? = some (.deferred (some [])) := (Below.heap_setCell _ _ _ _ (show D2 ≠ n0 + 1 by omega)).trans d2.2
                have k1 : (wr.setCell ⟨n0 + 1, 0, none⟩ (.bool true)).heap[D1]? = some (.deferred (some [])) := (Below.heap_setCell _ _ _ _ (show D1 ≠ n0 + 1 by omega)).trans d1.2
                have k1' := (World.putObj_heap_other (w := wr.setCell ⟨n0 + 1, 0, none⟩ (.bool true)) (o := .deferred none) hne).trans k1
                have c0 := World.cell?_setCell_same' wr ⟨n0 + 1, 0, none⟩ (.bool true) (by rw [x2]; rfl)
                have c1 := cell_kept c0 (grownBy_putObj' _ D2 (.deferred none)) (fun r e => by cases e; exact ⟨_, k2, rfl⟩)
                have c2 := cell_kept c1 (grownBy_putObj' _ D1 (.deferred none)) (fun r e => by cases e; exact ⟨_, k1', rfl⟩)
                have hbw := HB0.out.trans (hL1.mono HB0.out.size)
                have hb1 := hbw.setCell (p := ⟨n0 + 1, 0, none⟩) (show w.heap.size ≤ n0 + 1 by omega) (.bool true)
                have hs1 := hb1.size
                exact ⟨k2, k1', c2, (hb1.trans (grown_belowU (grownBy_putObj' _ D2 (.deferred none)) hb1.size (by omega))).trans (grown_belowU (grownBy_putObj' _ D1 (.deferred none)) (by simpa using hs1) (by omega))⟩)
              clear d1 d2 hne hnD hwn hU1 hL1 hwr0
              go_wp2
              refine ⟨by simp, .inl ⟨_, _, rfl, run_takeDeferred HEe.out.1, ?_⟩⟩
              refine ⟨by simp, .inl ⟨_, _, rfl, run_takeDeferred HEe.out.2.1, ?_⟩⟩
              refine ⟨.bool true, ?_, rfl, HEe.out.2.2.2⟩
              have hc5 := HEe.out.2.2.1
              simp [results, Try.f11, go_sem, hc5]
        · have hpl : p < L.length := by have := HM.out; omega
          have hm9 : m ≤ 1000 := by rw [HM.out]; exact HLl.out
          obtain ⟨v, hv⟩ : ∃ v, L[p]? = some v := ⟨_, List.getElem?_eq_getElem hpl⟩
          have hvn : v ≠ 0 := by
            obtain ⟨z, hz, h⟩ := numsK_mem.1 ((HAll.out v).1 (List.mem_of_getElem? hv))
            have := HE.out.nz z hz
            rcases h with rfl | rfl
            · exact this.1
            · exact this.2
          have HV := Lib.hid hv
          obtain ⟨gL, oL, rfl, hcl⟩ := HEl.out (by omega)
          have hcv := hcl p v hv
          have HcL : Hid (∀ U, Below n8 w1 U → U.cell? ⟨gL, oL + p, none⟩ = some (.int .u32 (v : Int))) := Lib.hid (fun U hU => by
            rw [HN8.out] at hU
            exact (hU.cell (p := ⟨gL, oL + p, none⟩) (World.block_lt_of_cell? _ _ hcv)).trans hcv)
          obtain ⟨v0, hv0⟩ : ∃ v0, v0 = leastJ J v := ⟨_, rfl⟩
          obtain ⟨M, hM⟩ : ∃ M, M = cliqueJ J v := ⟨_, rfl⟩
          have hMK : cliqueJ K v = M := by rw [hM]; exact cliqueJ_same HE.out.con v
          obtain ⟨t, ht⟩ := cliqueJ_head (J := J) hvn
          rw [← hM, ← hv0] at ht
          obtain ⟨ml, hml⟩ : ∃ ml, ml = M.length := ⟨_, rfl⟩
          have hml0 : 0 < ml := by rw [hml, ht]; simp
          have hml9 : M.length ≤ 1000000000 := by rw [hM]; exact cliqueJ_few J v (by have := HJ.out; omega)
          have HCl : Hid (∀ U, Below n8 w1 U → Calls Try.prog 10 #[.slice ao k cap, .int .u32 (v : Int)] U fun e w' => ∃ gC oC capC, e = .returned (.slice (some ⟨gC, oC, none⟩) ml capC) ∧ ElR keyU w' (some ⟨gC, oC, none⟩) M ∧ Below U.heap.size U w') := Lib.hid (fun U hU => by
            have h8 := refClique_any (cap := cap) v (HPr.out U (HLow.out U hU).1) (by have := HN.out; omega) HE.out.nz
            rw [hMK, ← hml, ← HN.out] at h8
            refine h8.mono ?_
            rintro e w' ⟨ao8, cap8, rfl, h9, h10⟩
            obtain ⟨g8, o8, rfl, _⟩ := h9 (by omega)
            exact ⟨g8, o8, cap8, rfl, h9, h10⟩)
          have HCp : Hid (∀ U, Below n8 w1 U → Calls Try.prog 13 #[unP pb, .int .u32 (v : Int)] U fun e w' => ∃ ao cap, e = .returned (.slice ao ml cap) ∧ NumsR w' ao M ∧ Below U.heap.size U w') := Lib.hid (fun U hU => by
            have h8 := (HLow.out U hU).2.2.clique (by have := HJ.out; omega) v
            rw [← hM, ← hml] at h8
            exact h8)
          have HFd : Hid (∀ U, Below n8 w1 U → Calls Try.prog 14 #[unP pb, .int .u32 (v : Int)] U fun e w' => e = .returned (.int .u32 (v0 : Int)) ∧ w' = U) := Lib.hid (fun U hU => by
            rw [hv0]
            exact (HLow.out U hU).2.2.find v)
          have HEq : Hid (∀ (ao bo : Option Addr) (ca cb : Nat) (U : World), NumsR U ao M → ElR keyU U bo M → Calls Try.prog 12 #[.slice ao ml ca, .slice bo ml cb] U fun e w' => e = .returned (.bool true) ∧ Below U.heap.size U w') := Lib.hid (fun ao bo ca cb U h1 h2 => by
            have h8 := equal_any (ca := ca) (cb := cb) h1 (show NumsR U bo M from h2) hml9
            rw [← hml] at h8
            refine h8.mono ?_
            rintro e w' ⟨rfl, h⟩
            exact ⟨by simp, h⟩)
          have HM0 : Hid (∀ U gC oC, ElR keyU U (some ⟨gC, oC, none⟩) M → U.cell? ⟨gC, oC, none⟩ = some (.int .u32 (v0 : Int))) := Lib.hid (fun U gC oC h => by
            obtain ⟨g8, o8, e8, hc8⟩ := h (by omega)
            cases e8
            exact hc8 0 v0 (by rw [ht]; rfl))
          have HNext := firstsJ_next (J := J) hv
          rw [← hv0] at HNext
          replace HNext := Lib.hid HNext
          have c3 := HC3.out wy.drew (HLow.out wy HBy.out).1.drew
          have cL := HcL.out wy.drew HBy.out.drew
          have HBd := Lib.hid HBy.out.drew
          have e4 : decide ((p : Int) < (m : Int)) = true := decide_eq_true (by omega)
          clear hv hvn hcl hcv hv0 hM hMK ht hml hml9 hpl
          go_upto_region 14 with fail
          refine wp_region_held_drew (S := fun W' : World => W'.cell? ⟨n0, 0, none⟩ = some (.slice ao k cap) ∧ W'.cell? ⟨gL, oL + p, none⟩ = some (.int .u32 (v : Int))) (by kernel_rfl) ⟨c3, cL⟩ (fun hHeld => ?_)
          refine wpAnyH_take (i := 0) (v := .slice ao k cap) rfl (by kernel_rfl) (by kernel_rfl) (by kernel_rfl) (fun _ _ _ h => h) (Or.inl ⟨by rfl, fun w hSw => by (try dsimp only at hSw); obtain ⟨hSw1, hSw2⟩ := hSw; go_simp⟩) hHeld ?_
          simp only [Act.put, List.setIfInBounds_toArray, List.set_cons_zero, List.set_cons_succ, List.getElem_toArray, List.getElem_cons_succ, List.getElem_cons_zero]
          refine wpAnyH_take (i := 1) (v := .slice (some ⟨gL, oL, none⟩) m capL) rfl (by kernel_rfl) (by kernel_rfl) (by kernel_rfl) (fun _ _ _ h => h) (Or.inl ⟨by rfl, fun w hSw => by (try dsimp only at hSw); obtain ⟨hSw1, hSw2⟩ := hSw; go_simp⟩) hHeld ?_
          simp only [Act.put, List.setIfInBounds_toArray, List.set_cons_zero, List.set_cons_succ, List.getElem_toArray, List.getElem_cons_succ, List.getElem_cons_zero]
          refine wpAnyH_take (i := 2) (v := .int .i64 (p : Int)) rfl (by kernel_rfl) (by kernel_rfl) (by kernel_rfl) (fun _ _ _ h => h) (Or.inl ⟨by rfl, fun w hSw => by (try dsimp only at hSw); obtain ⟨hSw1, hSw2⟩ := hSw; go_simp⟩) hHeld ?_
          simp only [Act.put, List.setIfInBounds_toArray, List.set_cons_zero, List.set_cons_succ, List.getElem_toArray, List.getElem_cons_succ, List.getElem_cons_zero]
          refine wpAnyH_take (i := 3) (v := .pointer (some ⟨gL, oL + p, none⟩)) rfl (by kernel_rfl) (by kernel_rfl) (by kernel_rfl) (fun _ _ _ h => h) (Or.inl ⟨by rfl, fun w hSw => by (try dsimp only at hSw); obtain ⟨hSw1, hSw2⟩ := hSw; go_simp⟩) hHeld ?_
          simp only [Act.put, List.setIfInBounds_toArray, List.set_cons_zero, List.set_cons_succ, List.getElem_toArray, List.getElem_cons_succ, List.getElem_cons_zero]
          refine wpAnyH_take (i := 4) (v := .int .u32 (v : Int)) rfl (by kernel_rfl) (by kernel_rfl) (by kernel_rfl) (fun _ _ _ h => h) (Or.inl ⟨by rfl, fun w hSw => by (try dsimp only at hSw); obtain ⟨hSw1, hSw2⟩ := hSw; go_simp⟩) hHeld ?_
          simp only [Act.put, List.setIfInBounds_toArray, List.set_cons_zero, List.set_cons_succ, List.getElem_toArray, List.getElem_cons_succ, List.getElem_cons_zero]
          refine wpAnyH_ready (rs := [5]) (by kernel_rfl) (by simp) ?_
          refine AllReadyH.cons rfl (fun K hK => ?_) AllReadyH.nil
          go_simp
          refine (HCl.out wy.drew HBd.out).mono ?_
          rintro e wc ⟨gC, oC, capC, rfl, h5, h6⟩
          dsimp only
          have HBc := Lib.hid (HBd.out.trans (h6.mono (by have := HBd.out.size; have := HN8.out; omega)))
          have HWc : Hid (Below wy.heap.size wy wc) := Lib.hid ((Below.refl _ wy).drew.trans h6)
          refine hK.out _ _ ⟨HC3.out wc (HLow.out wc HBc.out).1, HcL.out wc HBc.out⟩ (fun hHeld => ?_)
          clear hK K
          (try simp only [Act.put, List.setIfInBounds_toArray, List.set_cons_zero, List.set_cons_succ, List.getElem_toArray, List.getElem_cons_succ, List.getElem_cons_zero])
          refine wpAnyH_take (i := 6) (v := .slice (some ⟨gC, oC, none⟩) ml capC) rfl (by kernel_rfl) (by kernel_rfl) (by kernel_rfl) (fun _ _ _ h => h) (Or.inl ⟨by rfl, fun w hSw => by (try dsimp only at hSw); obtain ⟨hSw1, hSw2⟩ := hSw; go_simp⟩) hHeld ?_
          simp only [Act.put, List.setIfInBounds_toArray, List.set_cons_zero, List.set_cons_succ, List.getElem_toArray, List.getElem_cons_succ, List.getElem_cons_zero]
          refine wpAnyH_done (by kernel_rfl) ?_ _
          have HElM := Lib.hid h5
          clear h5 h6 hHeld c3 cL
          have HX : Hid (∀ U, Below wc.heap.size wc U → U.cell? ⟨gL, oL + p, none⟩ = some (.int .u32 (v : Int)) ∧ U.cell? ⟨gC, oC, none⟩ = some (.int .u32 (v0 : Int)) ∧ Below wc.heap.size wc U) := Lib.hid (fun U hU => ⟨HcL.out U (HBc.out.trans (hU.mono (by have := HBc.out.size; have := HN8.out; omega))), HM0.out U gC oC (HElM.out.below hU), hU⟩)
          have HSt := Lib.hid (HX.out wc.drew (Below.refl _ _).drew)
          have HCp2 : Hid (∀ U, Below wc.heap.size wc U → Calls Try.prog 13 #[unP pb, .int .u32 (v : Int)] U fun e w' => ∃ ao cap, e = .returned (.slice ao ml cap) ∧ NumsR w' ao M ∧ Below U.heap.size U w' ∧ Below wc.heap.size wc w') := Lib.hid (fun U hU => (HCp.out U (HBc.out.trans (hU.mono (by have := HBc.out.size; have := HN8.out; omega)))).mono (by
            rintro e w' ⟨a8, c8, rfl, h1, h2⟩
            exact ⟨a8, c8, rfl, h1, h2, hU.trans (h2.mono hU.size)⟩))
          have HFd2 : Hid (∀ U, Below wc.heap.size wc U → Calls Try.prog 14 #[unP pb, .int .u32 (v : Int)] U fun e w' => e = .returned (.int .u32 (v0 : Int)) ∧ w' = U) := Lib.hid (fun U hU => HFd.out U (HBc.out.trans (hU.mono (by have := HBc.out.size; have := HN8.out; omega))))
          have hmm : ((v0 : Int) != (v0 : Int)) = false := by simp
          go_upto_region 15 with fail
          go_region_held3 (fun W' => W'.cell? ⟨gL, oL + p, none⟩ = some (.int .u32 (v : Int)) ∧ W'.cell? ⟨gC, oC, none⟩ = some (.int .u32 (v0 : Int)) ∧ Below wc.heap.size wc W') ((first | assumption | exact HSt.out | exact HX.out _ (pair_step (by assumption) (by assumption)))) (first
            | (go_at_call 13; (with_reducible refine (HCp2.out _ (pair_low (by assumption))).mono ?_); rintro e y3 ⟨aoP, capP, rfl, hNp, hY3, hY3b⟩; have HNp1 := Lib.hid hNp; have HNc1 := Lib.hid (HElM.out.below hY3b); clear hNp hY3b)
            | (go_at_call 12; (with_reducible refine (HEq.out _ _ _ _ _ HNp1.out HNc1.out).mono ?_); rintro e y5 ⟨rfl, hY5⟩)
            | (go_at_call 14; (with_reducible refine (HFd2.out _ (pair_low (by assumption))).mono ?_); rintro e y1 ⟨rfl, rfl⟩))
          rename_i hHeld
          rename World => wq
          have hbq := pair_low hHeld
          have cq1 := hHeld.1
          have cq2 := hHeld.2.1
          have HBq := Lib.hid (HBc.out.trans (hbq.mono (by have := HBc.out.size; have := HN8.out; omega)))
          have HWq : Hid (Below wy.heap.size wy wq) := Lib.hid (HWc.out.trans (hbq.mono HWc.out.size))
          have hbkq : wq.heap[n8]? = some (.cells #[.slice aoF (firstsJ J (L.take p)).length capF] 33 (0, 0)) := (HWq.out.block n8 (Array.getElem?_eq_some_iff.1 HBk.out).1).trans HBk.out
          have HBkq := Lib.hid hbkq
          have HOq := Lib.hid (HOw.out.below HWq.out)
          have d1 : wq.drew.cell? ⟨gL, oL + p, none⟩ = some (.int .u32 (v : Int)) := cq1
          have d2 : wq.drew.cell? ⟨gC, oC, none⟩ = some (.int .u32 (v0 : Int)) := cq2
          clear hHeld hbq hbkq HCp2 HFd2 HX HSt HElM HCl HCp HFd HEq HM0 hmm
          by_cases he : v0 = v
          · have e5 : ((v0 : Int) == (v : Int)) = true := by rw [beq_iff_eq, he]
            have HNx := HNext
            rw [if_pos he] at HNx
            obtain ⟨fs, hfs⟩ : ∃ fs, fs = firstsJ J (L.take p) := ⟨_, rfl⟩
            rw [← hfs] at HNx HBkq HOq
            obtain ⟨fl, hfl⟩ : ∃ fl, fl = fs.length := ⟨_, rfl⟩
            have hfl9 : fl ≤ 1000 := by
              rw [hfl, hfs]
              have h1 : (firstsJ J (L.take p)).length ≤ (L.take p).length := List.length_filter_le _ _
              rw [List.length_take] at h1
              have := HLl.out
              omega
            have hbk2 := HBkq.out
            rw [← hfl] at hbk2
            have r8 : wq.drew.drew.cell? ⟨n8, 0, none⟩ = some (.slice aoF fl capF) := cell_in (W := wq.drew.drew) hbk2 rfl
            have r9 : wq.drew.drew.cell? ⟨gL, oL + p, none⟩ = some (.int .u32 (v : Int)) := cq1
            obtain ⟨wz, hwz⟩ : ∃ wz, wz = wq.drew.drew := ⟨_, rfl⟩
            have hbz : wz.heap[n8]? = some (.cells #[.slice aoF fl capF] 33 (0, 0)) := by rw [hwz]; exact hbk2
            have HOz : Hid (OwnR keyU 23 (n8 + 1) wz aoF capF fs) := Lib.hid (by rw [hwz]; exact HOq.out.below (Below.refl _ _).drew.drew)
            have HBz : Hid (Below n8 w1 wz) := Lib.hid (by rw [hwz]; exact HBq.out.drew.drew)
            have hnz8 : n8 < wz.heap.size := (Array.getElem?_eq_some_iff.1 hbz).1
            have HWz := Lib.hid hwz
            have hba := (Below.refl wz.heap.size wz).alloc (Nat.le_refl _) (.cells #[.int .u32 (v : Int)] 23)
            have a8 : (wz.alloc (.cells #[.int .u32 (v : Int)] 23)).cell? ⟨n8, 0, none⟩ = some (.slice aoF fl capF) := cell_in ((hba.block n8 hnz8).trans hbz) rfl
            have a9 : (wz.alloc (.cells #[.int .u32 (v : Int)] 23)).cell? ⟨gL, oL + p, none⟩ = some (.int .u32 (v : Int)) := (hba.cell (p := ⟨gL, oL + p, none⟩) (World.block_lt_of_cell? _ _ (by rw [hwz]; exact r9))).trans (by rw [hwz]; exact r9)
            have HAA := Lib.hid (And.intro a8 a9)
            have HNw := Lib.hid (news_one wz (.int .u32 (v : Int)) 23)
            have HRa : Hid (RowK (wz.alloc (.cells #[.int .u32 (v : Int)] 23)) 23 1 aoF fl capF (fs.map keyU)) := Lib.hid (by
              have := (HOz.out.below hba).1
              rw [← hfl] at this
              exact this)
            have HFin : Hid (∀ (g1 o1 cap1 : Nat) (U1 : World), RowK U1 23 1 (some ⟨g1, o1, none⟩) (fl + 1) cap1 (fs.map keyU ++ [.int .u32 (v : Int)]) → (wz.alloc (.cells #[.int .u32 (v : Int)] 23)).grownBy U1 (some g1) → ((aoF = some ⟨g1, o1, none⟩ ∧ fl < capF) ∨ (wz.alloc (.cells #[.int .u32 (v : Int)] 23)).heap.size ≤ g1) →
                ((∃ x, U1.cell? ⟨n8, 0, none⟩ = some x) ∧ (∀ i, U1.frozen? ⟨n8, i, none⟩ = false) ∧ U1.cell? ⟨n8, 0, none⟩ = some (.slice aoF fl capF) ∧ U1.cell? ⟨gL, oL + p, none⟩ = some (.int .u32 (v : Int))) ∧
                (U1.setCell ⟨n8, 0, none⟩ (.slice (some ⟨g1, o1, none⟩) (fl + 1) cap1)).heap[n8]? = some (.cells #[.slice (some ⟨g1, o1, none⟩) (fs ++ [v]).length cap1] 33 (0, 0)) ∧ OwnR keyU 23 (n8 + 1) (U1.setCell ⟨n8, 0, none⟩ (.slice (some ⟨g1, o1, none⟩) (fl + 1) cap1)) (some ⟨g1, o1, none⟩) cap1 (fs ++ [v]) ∧ Below n8 w1 (U1.setCell ⟨n8, 0, none⟩ (.slice (some ⟨g1, o1, none⟩) (fl + 1) cap1))) := Lib.hid (by
              intro g1 o1 cap1 U1 hR1 hg1 hor1
              obtain ⟨hB9, hO9⟩ := HOz.out.more (by omega) v (.int .u32 (v : Int)) rfl g1 o1 cap1 U1 (by rw [← hfl]; exact hR1) hg1 (by rw [← hfl]; exact hor1)
              have hg : n8 + 1 ≤ g1 := hO9.2 _ rfl
              have hb9 := (hB9.block n8 (by omega)).trans hbz
              have hBn : Below n8 w1 U1 := HBz.out.trans (hB9.mono (by omega))
              refine ⟨⟨⟨_, cell_in hb9 rfl⟩, fun i => free_in hb9 i, cell_in hb9 rfl, HcL.out U1 hBn⟩, ?_, ⟨?_, hO9.2⟩, hBn.trans ((Turned.set (S := fun k => k = n8) (w := U1) (a := ⟨n8, 0, none⟩) rfl _).below (by have := hBn.size; have := HN8.out; omega) (fun k hk => by omega))⟩
              · rw [List.length_append, ← hfl]
                exact heap_setCell_same U1 n8 0 _ _ _ hb9
              · exact hO9.1.kept fun a ha => by
                  cases ha
                  exact Below.heap_setCell _ _ _ _ (fun e => by have e : g1 = n8 := e; omega))
            obtain ⟨iN, hiN, hzN, hsN, hbN⟩ := info_u32
            clear hbk2 hba hfs hfl hwz hbz cq1 cq2 HOw HBk HBy HWq HBkq HOq
            go_upto_region 17 with fail
            go_region_held3 (fun W' => W' = wq.drew) ((first | assumption | rfl)) (fail)
            go_upto_region 18 with fail
            refine wp_region_held_drew (S := fun W' : World => W'.cell? ⟨gL, oL + p, none⟩ = some (.int .u32 (v : Int))) (by kernel_rfl) r9 (fun hHeld => ?_)
            rw [← HWz.out] at hHeld r8 ⊢
            refine wpAnyH_take (i := 1) (v := .slice (some ⟨gL, oL, none⟩) m capL) rfl (by kernel_rfl) (by kernel_rfl) (by kernel_rfl) (fun _ _ _ h => h) (Or.inl ⟨by rfl, fun w hSw => by (try dsimp only at hSw); obtain hSw1 := hSw; go_simp⟩) hHeld ?_
            simp only [Act.put, List.setIfInBounds_toArray, List.set_cons_zero, List.set_cons_succ, List.getElem_toArray, List.getElem_cons_succ, List.getElem_cons_zero]
            refine wpAnyH_take (i := 2) (v := .int .i64 (p : Int)) rfl (by kernel_rfl) (by kernel_rfl) (by kernel_rfl) (fun _ _ _ h => h) (Or.inl ⟨by rfl, fun w hSw => by (try dsimp only at hSw); obtain hSw1 := hSw; go_simp⟩) hHeld ?_
            simp only [Act.put, List.setIfInBounds_toArray, List.set_cons_zero, List.set_cons_succ, List.getElem_toArray, List.getElem_cons_succ, List.getElem_cons_zero]
            refine wpAnyH_take (i := 3) (v := .pointer (some ⟨gL, oL + p, none⟩)) rfl (by kernel_rfl) (by kernel_rfl) (by kernel_rfl) (fun _ _ _ h => h) (Or.inl ⟨by rfl, fun w hSw => by (try dsimp only at hSw); obtain hSw1 := hSw; go_simp⟩) hHeld ?_
            simp only [Act.put, List.setIfInBounds_toArray, List.set_cons_zero, List.set_cons_succ, List.getElem_toArray, List.getElem_cons_succ, List.getElem_cons_zero]
            refine wpAnyH_take (i := 4) (v := .int .u32 (v : Int)) rfl (by kernel_rfl) (by kernel_rfl) (by kernel_rfl) (fun _ _ _ h => h) (Or.inl ⟨by rfl, fun w hSw => by (try dsimp only at hSw); obtain hSw1 := hSw; go_simp⟩) hHeld ?_
            simp only [Act.put, List.setIfInBounds_toArray, List.set_cons_zero, List.set_cons_succ, List.getElem_toArray, List.getElem_cons_succ, List.getElem_cons_zero]
            refine wpAnyH_ready (rs := [0, 5]) (by kernel_rfl) (by simp) ?_
            refine AllReadyH.cons rfl (fun K hK => ?_) (AllReadyH.cons rfl (fun K hK => ?_) AllReadyH.nil)
            · go_simp
              refine hK.out _ _ hHeld (fun hHeld => ?_)
              clear hK K
              refine wpAnyH_ready (rs := [5]) (by kernel_rfl) (by simp) ?_
              refine AllReadyH.cons rfl (fun K hK => ?_) AllReadyH.nil
              go_simp
              refine hK.out _ _ HAA.out.2 (fun hHeld => ?_)
              clear hK K
              refine wpAnyH_ready (rs := [6]) (by kernel_rfl) (by simp) ?_
              refine AllReadyH.cons rfl (fun K hK => ?_) AllReadyH.nil
              refine step_append_rowk rfl (.tmp 84) (.tmp 89) 33 rfl 23 iN (.int .u32 0) 1 4 Try.underlying33 hiN hzN hsN hbN rfl (by decide) aoF fl capF (fs.map keyU) rfl HRa.out ⟨wz.heap.size, 0, none⟩ 1 [.int .u32 (v : Int)] rfl rfl HNw.out (by simp [Value.oneCell']) (by unfold maxLen; omega) (by omega) ?_
              intro g1 o1 cap1 U1 hR1 hg1 hor1
              obtain ⟨⟨⟨x1, hx1⟩, f1, hS1, hS2⟩, hfin⟩ := HFin.out g1 o1 cap1 U1 hR1 hg1 hor1
              have HF := Lib.hid hfin
              have hS3 : (U1.setCell ⟨n8, 0, none⟩ (.slice (some ⟨g1, o1, none⟩) (fl + 1) cap1)).cell? ⟨gL, oL + p, none⟩ = some (.int .u32 (v : Int)) := HcL.out _ hfin.2.2
              clear hR1 hg1 hor1 hfin
              refine hK.out _ _ hS2 (fun hHeld => ?_)
              clear hK K
              refine wpAnyH_ready (rs := [7]) (by kernel_rfl) (by simp) ?_
              refine AllReadyH.cons rfl (fun K hK => ?_) AllReadyH.nil
              go_simp
              refine hK.out _ _ hS3 (fun hHeld => ?_)
              clear hK K
              refine wpAnyH_done (by kernel_rfl) ?_ _
              clear hS1 hS2 hS3 hx1 f1 hHeld
              go_wp2
              go_roundg (m - (p + 1))
              case measure => omega
              case rel => exact ⟨p + 1, _, cap1, by omega, by omega, by go_num, by rw [HNx.out]; exact HF.out.1, by rw [HNx.out]; exact HF.out.2.1, HF.out.2.2⟩
            · go_simp
              refine hK.out _ _ HAA.out.2 (fun hHeld => ?_)
              clear hK K
              refine wpAnyH_ready (rs := [0]) (by kernel_rfl) (by simp) ?_
              refine AllReadyH.cons rfl (fun K hK => ?_) AllReadyH.nil
              have a8 := HAA.out.1
              go_simp
              refine hK.out _ _ hHeld (fun hHeld => ?_)
              clear hK K a8
              refine wpAnyH_ready (rs := [6]) (by kernel_rfl) (by simp) ?_
              refine AllReadyH.cons rfl (fun K hK => ?_) AllReadyH.nil
              refine step_append_rowk rfl (.tmp 84) (.tmp 89) 33 rfl 23 iN (.int .u32 0) 1 4 Try.underlying33 hiN hzN hsN hbN rfl (by decide) aoF fl capF (fs.map keyU) rfl HRa.out ⟨wz.heap.size, 0, none⟩ 1 [.int .u32 (v : Int)] rfl rfl HNw.out (by simp [Value.oneCell']) (by unfold maxLen; omega) (by omega) ?_
              intro g1 o1 cap1 U1 hR1 hg1 hor1
              obtain ⟨⟨⟨x1, hx1⟩, f1, hS1, hS2⟩, hfin⟩ := HFin.out g1 o1 cap1 U1 hR1 hg1 hor1
              have HF := Lib.hid hfin
              have hS3 : (U1.setCell ⟨n8, 0, none⟩ (.slice (some ⟨g1, o1, none⟩) (fl + 1) cap1)).cell? ⟨gL, oL + p, none⟩ = some (.int .u32 (v : Int)) := HcL.out _ hfin.2.2
              clear hR1 hg1 hor1 hfin
              refine hK.out _ _ hS2 (fun hHeld => ?_)
              clear hK K
              refine wpAnyH_ready (rs := [7]) (by kernel_rfl) (by simp) ?_
              refine AllReadyH.cons rfl (fun K hK => ?_) AllReadyH.nil
              go_simp
              refine hK.out _ _ hS3 (fun hHeld => ?_)
              clear hK K
              refine wpAnyH_done (by kernel_rfl) ?_ _
              clear hS1 hS2 hS3 hx1 f1 hHeld
              go_wp2
              go_roundg (m - (p + 1))
              case measure => omega
              case rel => exact ⟨p + 1, _, cap1, by omega, by omega, by go_num, by rw [HNx.out]; exact HF.out.1, by rw [HNx.out]; exact HF.out.2.1, HF.out.2.2⟩
          · have e5 : ((v0 : Int) == (v : Int)) = false := by rw [beq_eq_false_iff_ne]; omega
            have HNx := HNext
            rw [if_neg he] at HNx
            clear cq1 cq2 HOw HBk HBy
            go_upto_region 17 with fail
            go_region_held3 (fun W' => W' = wq.drew) ((first | assumption | rfl)) (fail)
            go_wp2
            go_roundg (m - (p + 1))
            case measure => omega
            case rel => exact ⟨p + 1, aoF, capF, by omega, by omega, by go_num, by rw [HNx.out]; exact HBkq.out, by rw [HNx.out]; exact HOq.out.below (Below.refl _ _).drew, HBq.out.drew⟩
    · have hkl : k < K.length := by have := HN.out; omega
      obtain ⟨z, hz⟩ : ∃ z, K[k]? = some z := ⟨_, List.getElem?_eq_getElem hkl⟩
      have HZ := Lib.hid hz
      have e4 : decide ((k : Int) < (n : Int)) = true := decide_eq_true (by omega)
      obtain ⟨g, o, rfl, hcell⟩ := HP.out (by omega)
      have HCell : Hid (∀ U, Below w0.heap.size w0 U → U.cell? ⟨g, o + k * 2, none⟩ = some (.int .u32 (z.1 : Int)) ∧ U.cell? ⟨g, o + k * 2 + 1, none⟩ = some (.int .u32 (z.2 : Int))) := Lib.hid (fun U hU => ⟨(hU.cell (p := ⟨g, o + k * 2, none⟩) (World.block_lt_of_cell? _ _ (hcell k z hz).1)).trans (hcell k z hz).1, (hU.cell (p := ⟨g, o + k * 2 + 1, none⟩) (World.block_lt_of_cell? _ _ (hcell k z hz).2)).trans (hcell k z hz).2⟩)
      clear hcell hz hkl
      obtain ⟨wo, hwo⟩ : ∃ wo, wo = wr := ⟨_, rfl⟩
      subst hwo
      go_wp2
      go_loopg [5, 7] 2 (fun gg s i wy => ∃ (q : Nat) (L : List Nat) (aoL : Option Addr) (capL : Nat), q ≤ 2 ∧ 2 - q ≤ gg ∧ i = .int .i64 (q : Int) ∧ s = .slice aoL L.length capL ∧ ElR keyU wy aoL L ∧ L.Pairwise (· < ·) ∧ MemAt K k q L ∧ Below w0.heap.size w0 wy)
      case atStart => exact ⟨0, L, aoL, capL, by omega, by omega, rfl, rfl, HEl.out, HRi.out, HMe.out, HBe.out⟩
      case round =>
        clear HEl HRi HMe HBe c3
        obtain ⟨q, L, aoL, capL, hq, hgq, rfl, rfl, hel, hrise, hmem, hbe⟩ := hrel
        obtain ⟨wy, hwy⟩ : ∃ wy, wy = wr := ⟨_, rfl⟩
        subst hwy
        have HEl := Lib.hid hel
        have HRi := Lib.hid hrise
        have HBe := Lib.hid hbe
        have c3 := HC3.out wy hbe
        have hcx := HCell.out wy hbe
        clear hel hbe
        obtain rfl | rfl | rfl : q = 2 ∨ q = 0 ∨ q = 1 := by omega
        · have HMe := Lib.hid (hmem.next HZ.out)
          clear hmem hrise hcx
          go_wp2
          go_roundg (n - (k + 1))
          case measure => omega
          case rel => exact ⟨k + 1, L, aoL, capL, by omega, by omega, by go_num, rfl, HEl.out, HRi.out, HMe.out, HBe.out⟩
        · have cq := (hcx).1
          obtain ⟨v, hv⟩ : ∃ v, v = z.1 := ⟨_, rfl⟩
          rw [← hv] at cq
          have HV := Lib.hid hv
          have HLl := Lib.hid (few_all hrise hmem (by have := HN.out; omega))
          cases hb : decide (v ∈ L) with
          | true =>
            have HIn : Hid (Calls Try.prog 20 #[.slice aoL L.length capL, .int .u32 (v : Int)] wy fun e w' => e = .returned (.bool true) ∧ wy = w') := Lib.hid (by
              have h8 := refIn_any (cap := capL) v HEl.out (by have := HLl.out; omega)
              rw [hb] at h8
              refine h8.mono ?_
              rintro e w' ⟨rfl, rfl⟩
              exact ⟨rfl, rfl⟩)
            have HMe : Hid (MemAt K k 1 L) := Lib.hid (hmem.skip HZ.out (by omega) (by have h9 := of_decide_eq_true hb; rw [hv] at h9; exact h9))
            clear hb hv hrise hmem hcx
            go_wp2_with (go_at_call 20; refine HIn.out.mono ?_; rintro e y1 ⟨rfl, rfl⟩)
            go_roundg 1
            case measure => omega
            case rel => exact ⟨1, L, aoL, capL, by omega, by omega, by go_num, rfl, HEl.out, HRi.out, HMe.out, HBe.out⟩
          | false =>
            have HIn : Hid (Calls Try.prog 20 #[.slice aoL L.length capL, .int .u32 (v : Int)] wy fun e w' => e = .returned (.bool false) ∧ wy = w') := Lib.hid (by
              have h8 := refIn_any (cap := capL) v HEl.out (by have := HLl.out; omega)
              rw [hb] at h8
              refine h8.mono ?_
              rintro e w' ⟨rfl, rfl⟩
              exact ⟨rfl, rfl⟩)
            have HPut := Lib.hid (put_any (cap := capL) v HEl.out (by have := HLl.out; omega))
            have his := putL_is hrise (of_decide_eq_false hb)
            have HRi2 := Lib.hid his.1
            have HMe : Hid (MemAt K k 1 (putL L v)) := Lib.hid (hmem.put HZ.out (by omega) his.2.1 hv)
            clear hb hv hrise hmem hcx his
            go_wp2_with (first
              | (go_at_call 20; refine HIn.out.mono ?_; rintro e y1 ⟨rfl, rfl⟩)
              | (go_at_call 21; refine HPut.out.mono ?_; rintro e y2 ⟨ao8, cap8, rfl, h8, h9⟩; replace h8 := Lib.hid h8; replace h9 := Lib.hid h9))
            go_roundg 1
            case measure => omega
            case rel => exact ⟨1, _, ao8, cap8, by omega, by omega, by go_num, rfl, h8.out, HRi2.out, HMe.out, HBe.out.trans (h9.out.mono HBe.out.size)⟩
        · have cq := (hcx).2
          obtain ⟨v, hv⟩ : ∃ v, v = z.2 := ⟨_, rfl⟩
          rw [← hv] at cq
          have HV := Lib.hid hv
          have HLl := Lib.hid (few_all hrise hmem (by have := HN.out; omega))
          cases hb : decide (v ∈ L) with
          | true =>
            have HIn : Hid (Calls Try.prog 20 #[.slice aoL L.length capL, .int .u32 (v : Int)] wy fun e w' => e = .returned (.bool true) ∧ wy = w') := Lib.hid (by
              have h8 := refIn_any (cap := capL) v HEl.out (by have := HLl.out; omega)
              rw [hb] at h8
              refine h8.mono ?_
              rintro e w' ⟨rfl, rfl⟩
              exact ⟨rfl, rfl⟩)
            have HMe : Hid (MemAt K k 2 L) := Lib.hid (hmem.skip HZ.out (by omega) (by have h9 := of_decide_eq_true hb; rw [hv] at h9; exact h9))
            clear hb hv hrise hmem hcx
            go_wp2_with (go_at_call 20; refine HIn.out.mono ?_; rintro e y1 ⟨rfl, rfl⟩)
            go_roundg 0
            case measure => omega
            case rel => exact ⟨2, L, aoL, capL, by omega, by omega, by go_num, rfl, HEl.out, HRi.out, HMe.out, HBe.out⟩
          | false =>
            have HIn : Hid (Calls Try.prog 20 #[.slice aoL L.length capL, .int .u32 (v : Int)] wy fun e w' => e = .returned (.bool false) ∧ wy = w') := Lib.hid (by
              have h8 := refIn_any (cap := capL) v HEl.out (by have := HLl.out; omega)
              rw [hb] at h8
              refine h8.mono ?_
              rintro e w' ⟨rfl, rfl⟩
              exact ⟨rfl, rfl⟩)
            have HPut := Lib.hid (put_any (cap := capL) v HEl.out (by have := HLl.out; omega))
            have his := putL_is hrise (of_decide_eq_false hb)
            have HRi2 := Lib.hid his.1
            have HMe : Hid (MemAt K k 2 (putL L v)) := Lib.hid (hmem.put HZ.out (by omega) his.2.1 hv)
            clear hb hv hrise hmem hcx his
            go_wp2_with (first
              | (go_at_call 20; refine HIn.out.mono ?_; rintro e y1 ⟨rfl, rfl⟩)
              | (go_at_call 21; refine HPut.out.mono ?_; rintro e y2 ⟨ao8, cap8, rfl, h8, h9⟩; replace h8 := Lib.hid h8; replace h9 := Lib.hid h9))
            go_roundg 0
            case measure => omega
            case rel => exact ⟨2, _, ao8, cap8, by omega, by omega, by go_num, rfl, h8.out, HRi2.out, HMe.out, HBe.out.trans (h9.out.mono HBe.out.size)⟩
end Go.Proofs.Ytjbfjglomonanaa

