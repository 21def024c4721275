/-
  CONTRACTS OF Clique AND Len.
-/
import Derived.Test.YtloonndeojfepaaUnPart
namespace Go.Proofs.Ytloonndeojfepaa
open Go.RowKit
set_option linter.unusedVariables false
set_option linter.unusedSimpArgs false

theorem nums_of_row {W : World} {ao : Option Addr} {cap : Nat} {ns : List Nat} (h : RowK W 23 1 ao ns.length cap (u32C ns)) : NumsR W ao ns := fun hl => by
  obtain ⟨g, o, e, hc, _⟩ := h.at_ hl
  exact ⟨g, o, e, fun j k hj => hc j _ (by unfold u32C; rw [List.getElem?_map, hj]; rfl)⟩
/-- A number's clique, in order. -/
def cliqueL (A : PartA) (a : Nat) : List Nat := if a = 0 then [] else (lookA A a).2.2.mergeSort fun x y => decide (x ≤ y)
section
variable {w : World} {S : Nat → Prop} {pb nb cb : Nat} {A : PartA} {cl : Nat → Option ClD}
set_option maxRecDepth 100000 in
theorem cliqueOf_any (h : PartI w S pb nb cb A cl) (a : Nat) (hl : (lookA A a).2.2.length ≤ 1000000) : Calls Try.prog 13 #[.pointer (some ⟨pb, 0, none⟩), .int .u32 (a : Int)] w fun e w' =>
    ∃ ao cap, e = .returned (.slice ao (cliqueL A a).length cap) ∧ NumsR w' ao (cliqueL A a) ∧ Below w.heap.size w w' := by
  by_cases h0 : a = 0
  · subst h0
    have he : cliqueL A 0 = [] := rfl
    rw [he]
    have e1 : (((0 : Nat) : Int) == 0) = true := by decide
    clear h hl he
    go_enter Try.func13, Try.ntmps13
    go_wp2
    go_ret
    exact ⟨none, 0, rfl, fun h => by simp at h, Below.refl _ _⟩
  · have he : cliqueL A a = (lookA A a).2.2.mergeSort fun x y => decide (x ≤ y) := if_neg h0
    have e1 : ((a : Int) == 0) = false := by rw [beq_eq_false_iff_ne]; omega
    have HC := Lib.hid (clique_any h a)
    have HE := Lib.hid he
    have HL := Lib.hid hl
    clear h he h0 hl
    have hzl := zero_cl
    go_enter Try.func13, Try.ntmps13
    go_upto_region 4 with (go_at_call 19; refine HC.out.mono ?_; rintro e w1 ⟨c, rfl, h1, h2⟩; replace h1 := Lib.hid h1; replace h2 := Lib.hid h2)
    have hb1 := (Below.refl w1.heap.size w1).alloc (Nat.le_refl _) (.cells #[.int .u32 (c.least : Int), .slice c.ao c.len c.cap] 50)
    have HSo : Hid (Calls Try.prog 22 #[.agg #[.int .u32 (c.least : Int), .slice c.ao c.len c.cap]] (w1.alloc (.cells #[.int .u32 (c.least : Int), .slice c.ao c.len c.cap] 50)) fun e w' =>
        ∃ ao cap, e = .returned (.slice ao (cliqueL A a).length cap) ∧ NumsR w' ao (cliqueL A a) ∧ Below w.heap.size w w') := Lib.hid (by
      obtain ⟨_, hlen, hrow, _⟩ := h1.out
      have hb2 := hb1
      rw [hlen] at hrow hb2 ⊢
      have hn := (nums_of_row hrow).below hb2
      refine (cliqueSorted_any hn HL.out).mono ?_
      rintro e w' ⟨ao, cap, rfl, h5, _, h6⟩
      refine ⟨ao, cap, ?_, by rw [HE.out]; exact h5, h2.out.trans ((hb2.mono h2.out.size).trans (h6.mono (Nat.le_trans h2.out.size hb2.size)))⟩
      rw [HE.out, List.length_mergeSort])
    clear hb1
    go_wp2_with (go_at_call 22; refine HSo.out.mono ?_; rintro e w2 ⟨ao, cap, rfl, h3, h4⟩; replace h3 := Lib.hid h3; replace h4 := Lib.hid h4)
    go_ret
    exact ⟨ao, cap, rfl, h3.out, h4.out⟩
set_option maxRecDepth 100000 in
theorem len_any (h : PartI w S pb nb cb A cl) : Calls Try.prog 15 #[.pointer (some ⟨pb, 0, none⟩)] w fun e w' =>
    (∃ ks : List Nat, e = .returned (.int .i64 (ks.length : Int)) ∧ ks.Nodup ∧ ∀ r, r ∈ ks ↔ (cl r).isSome = true) ∧ w' = w := by
  have c1 : w.cell? ⟨pb, 1, none⟩ = some (.map (some cb)) := cell_in h.mem.blk rfl
  have HI := Lib.hid (isNone_some c1)
  obtain ⟨es, ck, hb, h1, h2, h3, _⟩ := h.mem.cliques
  have hln : (Builtin.len_ #[46] 3 #[.map (some cb)]).run Try.prog w = .ok (.int .i64 (es.size : Int)) w := by
    simp [Builtin.len_, run_underlying Try.underlying46, MapKept.run_getObj_map hb, Result.andThen, goInt]
  have HKs : Hid (∃ ks : List Nat, (es.size : Int) = (ks.length : Int) ∧ ks.Nodup ∧ ∀ r, r ∈ ks ↔ (cl r).isSome = true) := Lib.hid (by
    have hkey : ∀ l : List MapEntry, (∀ x ∈ l, ∃ r v, x.key = keyU r ∧ x.val = clV v ∧ cl r = some v) → (l.map (·.key)).Nodup → ∃ ks : List Nat, l.length = ks.length ∧ ks.Nodup ∧ (∀ r, r ∈ ks ↔ ∃ x ∈ l, x.key = keyU r) := by
      intro l
      induction l with
      | nil => exact fun _ _ => ⟨[], rfl, by simp, fun r => by simp⟩
      | cons x l ih =>
        intro ha hn
        rw [List.map_cons, List.nodup_cons] at hn
        obtain ⟨ks, e1, e2, e3⟩ := ih (fun y hy => ha y (by simp [hy])) hn.2
        obtain ⟨r, v, hk, _, _⟩ := ha x (by simp)
        refine ⟨r :: ks, by simp [e1], ?_, fun q => ?_⟩
        · rw [List.nodup_cons]
          refine ⟨fun hr => ?_, e2⟩
          obtain ⟨y, hy, hky⟩ := (e3 r).1 hr
          exact hn.1 (List.mem_map.2 ⟨y, hy, hky.trans hk.symm⟩)
        · rw [List.mem_cons, e3]
          constructor
          · rintro (rfl | ⟨y, hy, hky⟩)
            · exact ⟨x, by simp, hk⟩
            · exact ⟨y, by simp [hy], hky⟩
          · rintro ⟨y, hy, hky⟩
            rcases List.mem_cons.1 hy with rfl | hy
            · exact .inl (keyU_inj (hky.symm.trans hk))
            · exact .inr ⟨y, hy, hky⟩
    obtain ⟨ks, e1, e2, e3⟩ := hkey es.toList h1 h3
    refine ⟨ks, by rw [← e1]; simp, e2, fun r => ?_⟩
    rw [e3]
    constructor
    · rintro ⟨x, hx, hk⟩
      obtain ⟨q, v, hk2, _, hc⟩ := h1 x hx
      obtain rfl := keyU_inj (hk2.symm.trans hk)
      rw [hc]
      rfl
    · intro hs
      obtain ⟨v, hv⟩ := Option.isSome_iff_exists.1 hs
      exact h2 r v hv)
  clear h h1 h2 h3 hb
  go_enter Try.func15, Try.ntmps15
  go_wp2_with (go_at_call 18; refine HI.out.mono ?_; rintro e w' ⟨rfl, rfl⟩)
  go_ret
  obtain ⟨ks, e1, e2, e3⟩ := HKs.out
  exact ⟨⟨ks, by rw [e1]; rfl, e2, e3⟩, rfl⟩
end
end Go.Proofs.Ytloonndeojfepaa
