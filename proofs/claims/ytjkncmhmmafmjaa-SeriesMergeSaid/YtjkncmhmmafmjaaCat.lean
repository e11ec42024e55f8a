/- The contracts of slices.Grow at no samples, and of slices.Concat at two slices of samples. -/
import Derived.Test.YtjkncmhmmafmjaaDelf
import Derived.Deep.Upon
import Derived.Lib.AppendZeros
namespace Go.Proofs.Ytjkncmhmmafmjaa
open Go.RowKit
set_option linter.unusedVariables false
set_option linter.unusedSimpArgs false

theorem wpList_append_smps {w : World} {ops : Array Oper} {rest : List Oper} {o : Oper} {a : Act} {Q : Exit → Act → World → Prop} (hgd : o.guard = none) (s x : Operand)
    (ho : o.op = .call { callee := .builtin .append, args := #[s, x], argTypes := #[29, 29] })
    (base : Nat) (v : Value) (l : List Smp) (hs : a.eval s = v) (hown : w.ownsRow base 27 3 v l.length (cellsOf l)) (vx : Value) (hx : a.eval x = vx) (l2 : List Smp) (hr : RdS w 27 vx l2)
    (hn : l.length ≤ 100000000) (hn2 : l2.length ≤ 100000000) (hbase : base ≤ w.heap.size)
    (h : ∀ v' w', w'.ownsRow base 27 3 v' (l ++ l2).length (cellsOf (l ++ l2)) → Below base w w' → wpList Try.prog ops Q rest (a.put o.dst v') w') : wpList Try.prog ops Q (o :: rest) a w := by
  obtain ⟨i0, hi0, hz0, hz1, hz2⟩ := info_parts info_smp
  obtain ⟨hlen, ax, cx, rfl, hc1, hc2, hcell⟩ := hr
  rcases Nat.eq_zero_or_pos l2.length with h0 | h0
  · obtain rfl := List.eq_nil_of_length_eq_zero h0
    have hsrc : Src Try.prog i0.size 29 (.slice ax 0 cx) 0 [] w := by
      rcases ax with _ | ad
      · exact Src.ofNil w Try.underlying29 cx
      · exact Src.ofSlice w Try.underlying29 ad 0 cx [] (by simp) (by simp) (by simp)
    have hv : ∃ b c, v = .slice b l.length c ∧ l.length ≤ c := by
      rcases hown.2 with ⟨rfl, e0⟩ | ⟨g, cap, cur, rfl, _, _, hle, _⟩
      · have := hown.1; rw [e0] at this; simp at this
        exact ⟨none, 0, by rw [show l.length = 0 from by omega], by omega⟩
      · exact ⟨_, _, rfl, hle⟩
    obtain ⟨b, c, rfl, hle⟩ := hv
    refine Lib.wpList_append_run w hgd s x 29 29 ho _ _ hs hx _ _ (run_append_nothing w 29 29 o.type 27 i0 Try.underlying29 hi0 b l.length c hle _ hsrc) ?_
    exact h _ _ (by simpa using hown) (Below.refl _ _)
  · obtain ⟨b, off, cur, fr, rfl, hb, hcc⟩ := hcell h0
    refine wpList_append_own w hgd s x 29 ho base 27 i0 _ 3 24 Try.underlying29 hi0 hz0 hz1 hz2 rfl (by decide) v l.length _ hs hown ⟨b, off, none⟩ l2.length cx (cellsOf l2) hx hlen ?_ (cellsOf_one l2) ?_ ?_ hbase ?_
    · intro j u hu
      have hj : j < l2.length * 3 := by
        rcases Nat.lt_or_ge j (l2.length * 3) with hlt | hge
        · exact hlt
        · rw [List.getElem?_eq_none (by rw [cellsOf_length]; exact hge)] at hu; cases hu
      have e1 : (⟨b, off, none⟩ : Addr).add j = ⟨b, off + j, none⟩ := by unfold Addr.add; split <;> simp_all
      rw [e1]
      simp only [World.cell?, hb]
      simp
      rw [hcc j hj, hu]
    · simp only [maxLen]; omega
    · omega
    · intro v' w' h1 h2 _
      refine h v' w' (by simpa using h1) ?_
      exact (Below.refl _ _).grown h2 hbase (fun k hk => (hown.lt k hk).1)

set_option maxRecDepth 100000 in
set_option maxHeartbeats 1000000 in
theorem grow_none_any (n : Nat) (w : World) (hn : n ≤ 1000000) :
    Calls Try.prog 83 #[.slice none 0 0, .int .i64 (n : Int)] w fun e w' => ∃ v', e = .returned v' ∧ w'.ownsRow w.heap.size 27 3 v' 0 (cellsOf []) ∧ Below w.heap.size w w' := by
  obtain ⟨i0, hi0, hz0, hz1, hz2⟩ := info_parts info_smp
  by_cases h0 : n = 0
  · subst h0
    clear hi0
    go_enter Try.func83, Try.ntmps83
    go_wp2_with fail
    go_ret
    exact ⟨_, rfl, World.ownsRow_nil _ _ _ _, Below.refl _ _⟩
  · have hp : 0 < n := by omega
    have hrun := fun (ty : TypeId) (w : World) => Lib.run_append_nil_zeros (P := Try.prog) w 29 3 ty 27 i0 _ .i64 .i64 Try.underlying29 Try.underlying3 hi0 hz0 n hp (by omega) (by omega) (by rw [hz2]; omega)
    have HRUN := Lib.hid hrun
    clear hrun hi0 h0
    go_enter Try.func83, Try.ntmps83
    go_wp2_with (at_builtin; refine Lib.wpList_append_run _ rfl (.tmp 20) (.tmp 21) 29 3 rfl (.slice none 0 0) (.int .i64 (n : Int)) rfl rfl _ _ (HRUN.out _ _) ?_)
    go_ret
    have hge := grownCap_ge w n 0 27
    have hle := grownCap_le_maxLen w n 0 27 (by simp only [maxLen]; omega)
    refine ⟨_, rfl, ⟨by simp, .inr ⟨w.heap.size, _, _, rfl, Nat.le_refl _, heap_alloc_new w.drew _, by omega, hle, ?_, by simp⟩⟩, (Below.refl _ w).drew.alloc (Nat.le_refl _) _⟩
    rw [Array.size_append, size_zeroCells, size_zeroCells]
    simp [Value.cells]
    omega

set_option maxRecDepth 100000 in
set_option maxHeartbeats 2000000 in
theorem concat_any (va vb : Value) (a b : List Smp) (k : Nat) (w : World) (ha : RdS w 27 va a) (hb : RdS w 27 vb b) (hB : Blk w k 29 #[va, vb]) (hla : a.length ≤ 5000) (hlb : b.length ≤ 5000) :
    Calls Try.prog 52 #[.slice (some ⟨k, 0, none⟩) 2 2] w fun e w' => ∃ v', e = .returned v' ∧ w'.ownsRow w.heap.size 27 3 v' (a ++ b).length (cellsOf (a ++ b)) ∧ Below w.heap.size w w' := by
  have hc0 : w.cell? ⟨k, 0, none⟩ = some va := hB.cell 0
  have hc1 : w.cell? ⟨k, 1, none⟩ = some vb := hB.cell 1
  have hk : k < w.heap.size := hB.lt
  obtain ⟨pa, ca, rfl⟩ : ∃ pa ca, va = .slice pa a.length ca := by obtain ⟨_, pa, ca, rfl, _⟩ := ha; exact ⟨pa, ca, rfl⟩
  obtain ⟨pb, cb, rfl⟩ : ∃ pb cb, vb = .slice pb b.length cb := by obtain ⟨_, pb, cb, rfl, _⟩ := hb; exact ⟨pb, cb, rfl⟩
  have HA := Lib.hid ha
  have HB := Lib.hid hb
  have HBK := Lib.hid hB
  clear ha hb hB
  have hg := fun (w : World) => grow_none_any (a.length + b.length) w (by omega)
  rw [show ((a.length + b.length : Nat) : Int) = (a.length : Int) + (b.length : Int) by omega] at hg
  have HG := Lib.hid hg
  clear hg
  go_enter Try.func52, Try.ntmps52
  go_wp2_with fail
  refine wp_loop_rounds 3 ?_
  rw [rounds_succ]
  go_wp2_with fail
  rw [rounds_succ]
  go_wp2_with fail
  rw [rounds_succ]
  go_wp2_with fail
  refine (HG.out _).mono ?_
  rintro e w1 ⟨v1, rfl, hown1, hb1⟩
  have d0 : w1.cell? ⟨k, 0, none⟩ = some (.slice pa a.length ca) := (HBK.out.below hb1 hk).cell 0
  have d1 : w1.cell? ⟨k, 1, none⟩ = some (.slice pb b.length cb) := (HBK.out.below hb1 hk).cell 1
  have hra := Rd.below HA.out hb1
  have hrb := Rd.below HB.out hb1
  have HO1 := Lib.hid hown1
  have HRA := Lib.hid hra
  have HRB := Lib.hid hrb
  clear hown1 hra hrb hc0 hc1
  go_wp2_with fail
  refine wp_loop_rounds 3 ?_
  rw [rounds_succ]
  go_wp2_with (at_builtin; go_loud (refine wpList_append_smps rfl (.tmp 31) (.tmp 32) rfl w.heap.size v1 [] rfl HO1.out _ rfl a HRA.out (by simp) (by omega) hb1.size ?_); intro v2 w2 hown2 hb2; have hb02 := hb1.trans hb2; have e1 : w2.cell? ⟨k, 1, none⟩ = some (.slice pb b.length cb) := (HBK.out.below hb02 hk).cell 1; have hrb2 := Rd.below HB.out hb02; have HO2 := Lib.hid hown2; clear hown2 d0 d1)
  rw [rounds_succ]
  have HRB2 := Lib.hid hrb2
  clear hrb2
  go_wp2_with (at_builtin; refine wpList_append_smps rfl (.tmp 31) (.tmp 32) rfl w.heap.size v2 ([] ++ a) rfl HO2.out _ rfl b HRB2.out (by simp; omega) (by omega) hb02.size ?_; intro v3 w3 hown3 hb3; have hb03 := hb02.trans hb3; have HO3 := Lib.hid hown3; clear hown3 e1)
  rw [rounds_succ]
  go_wp2_with fail
  go_ret
  exact ⟨_, rfl, HO3.out, hb03⟩
end Go.Proofs.Ytjkncmhmmafmjaa
