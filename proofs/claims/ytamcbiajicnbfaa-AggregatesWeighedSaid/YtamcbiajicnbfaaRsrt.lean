/- The contract of slices.SortStableFunc at stretches, fewer than 20 of them, by value (that the order of equal ones stays is not said). -/
/- The contract of slices.SortFunc at stays, at most 12 of them, by value. -/
/- stays: cells, append of one, reading. No condition beyond the contracts'. -/
import Derived.Test.YtamcbiajicnbfaaStrl
import Derived.Test.YtamcbiajicnbfaaApp
import Derived.OwnWalkIn
import Derived.Test.YtamcbiajicnbfaaSrtk
import Derived.Test.YtamcbiajicnbfaaCmq
import Derived.Test.YtamcbiajicnbfaaMsrtLay
import Derived.Test.YtamcbiajicnbfaaVdel
namespace Go.Proofs.Ytamcbiajicnbfaa
open Go.RowKit
set_option linter.unusedVariables false
set_option linter.unusedSimpArgs false

def styCells (l : List (Int × Int)) : List Value := l.flatMap fun p => [.int .i64 p.1, .int .i64 p.2]
theorem styCells_append (a b : List (Int × Int)) : styCells (a ++ b) = styCells a ++ styCells b := by simp [styCells]
theorem styCells_length (l : List (Int × Int)) : (styCells l).length = l.length * 2 := by
  induction l with
  | nil => rfl
  | cons x l ih => simp [styCells] at ih ⊢; omega
theorem styCells_get (l : List (Int × Int)) (i : Nat) (h : i < l.length) : (styCells l)[i * 2]? = some (.int .i64 l[i].1) ∧ (styCells l)[i * 2 + 1]? = some (.int .i64 l[i].2) := by
  induction l generalizing i with
  | nil => simp at h
  | cons x l ih =>
    cases i with
    | zero => simp [styCells]
    | succ i =>
      have := ih i (by simpa using h)
      rw [show (i + 1) * 2 = i * 2 + 2 from by omega, show i * 2 + 2 + 1 = i * 2 + 1 + 2 from by omega]
      simpa [styCells] using this
theorem info_sty : (Try.prog.info? 185).map (fun i => (i.zero, i.size, i.bytes)) = some (some (.agg #[.int .i64 0, .int .i64 0]), 2, 16) := by kernel_rfl
/-- append of one record that lies alone in block b. -/
theorem wpList_append_sty {w : World} {ops : Array Oper} {rest : List Oper} {o : Oper} {a : Act} {Q : Exit → Act → World → Prop} (hgd : o.guard = none) (s x : Operand)
    (ho : o.op = .call { callee := .builtin .append, args := #[s, x], argTypes := #[179, 179] })
    (base : Nat) (v : Value) (n : Nat) (l : List (Int × Int)) (hs : a.eval s = v) (hown : w.ownsRow base 185 2 v n (styCells l)) (b : Nat) (hx : a.eval x = .slice (some ⟨b, 0, none⟩) 1 1) (y : (Int × Int))
    (hb : Blk w b 185 #[.int .i64 y.1, .int .i64 y.2]) (hn : n ≤ 100000000) (hbase : base ≤ w.heap.size)
    (h : ∀ v' w', w'.ownsRow base 185 2 v' (n + 1) (styCells (l ++ [y])) → w.grownBy w' v.ownBlock → wpList Try.prog ops Q rest (a.put o.dst v') w') : wpList Try.prog ops Q (o :: rest) a w := by
  obtain ⟨i0, hi0, hz0, hz1, hz2⟩ := info_parts info_sty
  refine wpList_append_own w hgd s x 179 ho base 185 i0 _ 2 16 Try.underlying179 hi0 hz0 hz1 hz2 rfl (by decide) v n _ hs hown ⟨b, 0, none⟩ 1 1 (styCells [y]) hx rfl ?_ ?_ ?_ ?_ hbase ?_
  · intro j u hu
    have hbb := hb.cell j
    have hj : j < 2 := by
      rcases Nat.lt_or_ge j 2 with hlt | hge
      · exact hlt
      · rw [List.getElem?_eq_none (by simp [styCells]; exact hge)] at hu; cases hu
    have e1 : (⟨b, 0, none⟩ : Addr).add j = ⟨b, j, none⟩ := by unfold Addr.add; split <;> simp_all
    rw [e1, hbb, ← hu]
    simp [styCells]
  · intro u hu
    simp [styCells] at hu
    rcases hu with rfl | rfl <;> rfl
  · simp only [maxLen]; omega
  · omega
  · intro v' w' h1 h2 _
    exact h v' w' (by rw [styCells_append]; exact h1) h2
/-- append of one record that lies alone in block b, inside a fence. -/
theorem wpListIn_append_sty {F : Fence} {nn : Nat} {w : World} {ops : Array Oper} {rest : List Oper} {o : Oper} {a : Act} {Q : Exit → Act → World → Prop} (hgd : o.guard = none) (s x : Operand)
    (ho : o.op = .call { callee := .builtin .append, args := #[s, x], argTypes := #[179, 179] })
    (base : Nat) (v : Value) (n : Nat) (l : List (Int × Int)) (hs : a.eval s = v) (hown : w.ownsRow base 185 2 v n (styCells l)) (b : Nat) (hx : a.eval x = .slice (some ⟨b, 0, none⟩) 1 1) (y : (Int × Int))
    (hb : Blk w b 185 #[.int .i64 y.1, .int .i64 y.2]) (hn : n ≤ 100000000) (hbase : base ≤ w.heap.size)
    (h : ∀ v' w', w'.ownsRow base 185 2 v' (n + 1) (styCells (l ++ [y])) → w.grownBy w' v.ownBlock → wpListIn F nn Try.prog ops Q rest (a.put o.dst v') w') : wpListIn F nn Try.prog ops Q (o :: rest) a w := by
  obtain ⟨i0, hi0, hz0, hz1, hz2⟩ := info_parts info_sty
  refine wpListIn_append_own w hgd s x 179 ho base 185 i0 _ 2 16 Try.underlying179 hi0 hz0 hz1 hz2 rfl (by decide) v n _ hs hown ⟨b, 0, none⟩ 1 1 (styCells [y]) hx rfl ?_ ?_ ?_ ?_ hbase ?_
  · intro j u hu
    have hbb := hb.cell j
    have hj : j < 2 := by
      rcases Nat.lt_or_ge j 2 with hlt | hge
      · exact hlt
      · rw [List.getElem?_eq_none (by simp [styCells]; exact hge)] at hu; cases hu
    have e1 : (⟨b, 0, none⟩ : Addr).add j = ⟨b, j, none⟩ := by unfold Addr.add; split <;> simp_all
    rw [e1, hbb, ← hu]
    simp [styCells]
  · intro u hu
    simp [styCells] at hu
    rcases hu with rfl | rfl <;> rfl
  · simp only [maxLen]; omega
  · omega
  · intro v' w' h1 h2 _
    exact h v' w' (by rw [styCells_append]; exact h1) h2

/-- A slice of these records reads as l. -/
def RdSty (w : World) (v : Value) (l : List (Int × Int)) : Prop := Rd w 185 2 v l.length (styCells l)
theorem RdSty.cells {w : World} {v : Value} {l : List (Int × Int)} (h : RdSty w v l) (hn : 0 < l.length) :
    ∃ b off c, v = .slice (some ⟨b, off, none⟩) l.length c ∧ l.length ≤ c ∧ c ≤ maxLen ∧ b < w.heap.size ∧ ∀ i (hi : i < l.length), w.cell? ⟨b, off + i * 2, none⟩ = some (.int .i64 l[i].1) ∧ w.cell? ⟨b, off + i * 2 + 1, none⟩ = some (.int .i64 l[i].2) := by
  obtain ⟨b, off, c, hv, h2, h3, hlt, hc⟩ := Rd.cell h hn
  refine ⟨b, off, c, hv, h2, h3, hlt, fun i hi => ?_⟩
  obtain ⟨e0, e1⟩ := styCells_get l i hi
  have g1 := hc (i * 2 + 1) (by omega)
  exact ⟨by rw [hc (i * 2) (by omega), e0], by rw [Nat.add_assoc, g1, e1]⟩
theorem RdSty.lenv {w : World} {v : Value} {l : List (Int × Int)} (h : RdSty w v l) : ∃ pa ca, v = .slice pa l.length ca := by obtain ⟨_, pa, ca, rfl, _⟩ := h; exact ⟨pa, ca, rfl⟩
theorem own_sty {w : World} {base g c n : Nat} {l : List (Int × Int)} (h : w.ownsRow base 185 2 (.slice (some ⟨g, 0, none⟩) n c) n (styCells l)) (hl : l.length = n) (i : Nat) (hi : i < n) :
    w.cell? ⟨g, i * 2, none⟩ = some (.int .i64 (l[i]'(by omega)).1) ∧ w.cell? ⟨g, i * 2 + 1, none⟩ = some (.int .i64 (l[i]'(by omega)).2) := by
  obtain ⟨e0, e1⟩ := styCells_get l i (by omega)
  exact ⟨by rw [h.cellAt _ (by omega), e0], by rw [h.cellAt _ (by omega), e1]⟩
theorem styCells_set (l : List (Int × Int)) (i : Nat) (h : i < l.length) (y : (Int × Int)) : ((styCells l).set (i * 2) (.int .i64 y.1)).set (i * 2 + 1) (.int .i64 y.2) = styCells (l.set i y) := by
  induction l generalizing i with
  | nil => simp at h
  | cons x l ih =>
    cases i with
    | zero => simp [styCells]
    | succ i =>
      have := ih i (by simpa using h)
      simp only [List.set_cons_succ]
      have e : ∀ (x : (Int × Int)) (l : List (Int × Int)), styCells (x :: l) = [.int .i64 x.1, .int .i64 x.2] ++ styCells l := fun _ _ => by simp [styCells]
      rw [e, e, ← this, show (i + 1) * 2 = i * 2 + 2 from by omega, show i * 2 + 2 + 1 = i * 2 + 1 + 2 from by omega]
      simp
end Go.Proofs.Ytamcbiajicnbfaa
namespace Go.Proofs.Ytamcbiajicnbfaa
open Go.RowKit Go.Shelf Go.Sort Go.Lib
set_option linter.unusedVariables false
set_option linter.unusedSimpArgs false

def encSty (x : Int × Int) : List Value := [.int .i64 x.1, .int .i64 x.2]
def ordSty (x y : Int × Int) : Int := cmpI x.1 y.1
theorem cmpI_lt (x y : Int) : decide (cmpI x y < 0) = decide (x < y) := by
  unfold cmpI
  by_cases h : x < y
  · simp [h]
  · by_cases h2 : x = y <;> simp [h] <;> (try split) <;> omega
theorem ltOf_ordSty (x y : Int × Int) : ltOf ordSty x y = decide (x.1 < y.1) := by unfold ltOf ordSty; exact cmpI_lt x.1 y.1
theorem swo_ordSty : SWO (ltOf ordSty) where
  irrefl x := by rw [ltOf_ordSty]; simp
  trans x y z h1 h2 := by rw [ltOf_ordSty] at *; simp at *; omega
  ntrans x y z h1 h2 := by rw [ltOf_ordSty] at *; simp at *; omega
theorem encSty_one (x : Int × Int) : ∀ v ∈ encSty x, v.oneCell' = true := fun v hv => by
  simp [encSty] at hv
  rcases hv with rfl | rfl <;> rfl
theorem styCells_enc (l : List (Int × Int)) : styCells l = l.flatMap encSty := rfl

theorem median1_any (x y : Int × Int) (w : World) :
    Calls Try.prog 146 #[.agg #[.int .i64 x.1, .int .i64 x.2], .agg #[.int .i64 y.1, .int .i64 y.2]] w fun e w' => e = .returned (.int .i64 (cmpI x.1 y.1)) ∧ ∃ q os', w' = grow (w.drewN q) os' := by
  go_enter Try.func146, Try.ntmps146
  go_wp2_with (go_at_call 117; refine (compare_any _ _ _).mono ?_; rintro e w' ⟨rfl, rfl⟩)
  go_ret
  exact ⟨rfl, 0, _, by rw [alloc_eq_grow, alloc_eq_grow, grow_grow]; rfl⟩
theorem enter_median1 (args : Array Value) (w : World) : (callFunc 146 args).run Try.prog w = .ok (.enter 146 args) w := by kernel_rfl
theorem cmpLays_ordSty (blk off size : Nat) (w : World) : CmpLays Try.prog 146 #[] encSty 2 ordSty blk off size w :=
  fun _ _ _ _ x y => median1_any x y _

set_option maxHeartbeats 1000000 in
theorem insSty_none (p : Option Addr) (cap : Nat) (fv : Value) (w : World) :
    Calls Try.prog 194 #[.slice p 0 cap, .int .i64 0, .int .i64 0, fv] w fun e w' => e = .returned (.tuple #[]) ∧ w' = w := by
  go_enter Try.func194, Try.ntmps194
  go_wp2
  refine wp_loop_rounds 1 ?_
  rw [rounds_succ]
  go_wp2
  go_end0
  exact ⟨rfl, rfl⟩
set_option maxHeartbeats 2000000 in
theorem pdqSty_none (p : Option Addr) (cap : Nat) (lim : Int) (fv : Value) (w : World) :
    Calls Try.prog 181 #[.slice p 0 cap, .int .i64 0, .int .i64 0, .int .i64 lim, fv] w fun e w' => e = .returned (.tuple #[]) ∧ w' = w := by
  have hi := fun W => insSty_none p cap fv W
  go_enter Try.func181, Try.ntmps181
  go_wp2
  refine wp_loop_rounds 1 ?_
  rw [rounds_succ]
  go_wp2_with (go_at_call 194; refine (hi _).mono ?_; rintro e w' ⟨rfl, rfl⟩)
  (try simp only [Exit.inBlock, Exit.then]); refine bodyPost_ret (results_none rfl _ _ _) rfl ?_
  exact ⟨rfl, rfl⟩
theorem hlenSty (n : Nat) (W : World) (h : n ≤ 12) : Calls Try.prog 182 #[.int .u64 n] W fun e w' => e = .returned (.int .i64 (Lib.bitLen n : Nat)) ∧ w' = W := by
  have h := Any.bits_Len (SlLaysF0.n15.bits { Try.sortSty with }) (n : Int) W (by omega) (by omega)
  rwa [Int.toNat_natCast] at h
set_option maxHeartbeats 2000000 in
theorem sortSty_none (p : Option Addr) (cap : Nat) (fv : Value) (w : World) :
    Calls Try.prog 145 #[.slice p 0 cap, fv] w fun e w' => e = .returned (.tuple #[]) ∧ w' = w := by
  have hp := fun lim W => pdqSty_none p cap lim fv W
  have hl := fun W => hlenSty 0 W (by omega)
  go_enter Try.func145, Try.ntmps145
  go_wp2_with (first | (go_at_call 182; refine (hl _).mono ?_; rintro e w' ⟨rfl, rfl⟩) | (go_at_call 181; refine (hp _ _).mono ?_; rintro e w' ⟨rfl, rfl⟩))
  go_end0
  exact ⟨rfl, rfl⟩

theorem sortSty_any (v : Value) (l : List (Int × Int)) (base : Nat) (w : World) (hlong : l.length ≤ 12) (h : w.ownsRow base 185 2 v l.length (styCells l)) :
    Calls Try.prog 145 #[v, .func (.func 146) #[] #[]] w fun e w' => e = .returned (.tuple #[]) ∧
      ∃ l' : List (Int × Int), l'.Perm l ∧ l'.Pairwise (fun x y => x.1 ≤ y.1) ∧ w'.ownsRow base 185 2 v l'.length (styCells l') ∧ RowKit.Below base w w' ∧ w.grownBy w' v.ownBlock := by
  rcases h.2 with ⟨rfl, h0⟩ | ⟨g, cap, cur, rfl, hb, hg, hn, hm, hs, ht⟩
  · obtain rfl := List.eq_nil_of_length_eq_zero h0
    refine (sortSty_none none 0 _ w).mono ?_
    rintro e w' ⟨rfl, rfl⟩
    exact ⟨rfl, [], .refl _, .nil, h, RowKit.Below.refl _ _, ⟨rfl, rfl, rfl, Nat.le_refl _, fun _ _ _ => rfl⟩⟩
  · have hc := AnyQ.slices_SortFunc_small_sorted Try.sortSty 2 Try.isAgg185 Try.sizeOf185 encSty (fun _ => rfl) encSty_one ordSty 146 #[] swo_ordSty g 0 cap l.toArray w enter_median1 (cmpLays_ordSty _ _ _ _) (holds_of_own encSty 2 (fun _ => rfl) l h) (lt_of_heap hg) (by simpa using hlong) (fun n W hn => (hlenSty n W hn).mono (fun e w' ⟨h1, h2⟩ => ⟨⟨_, h1⟩, h2⟩))
    refine (show Calls Try.prog 145 #[.slice (some ⟨g, 0, none⟩) l.length cap, .func (.func 146) #[] #[]] w _ from hc).mono ?_
    rintro e w' ⟨rfl, d', n, os, hp, hsd, rfl⟩
    have hsz : d'.size = l.length := by have := hp.1; simpa using this
    have hpm := perm_of hp
    have hso := sorted_of (lt := ltOf ordSty) (d := d') (by rw [hp.1]; exact hsd)
    obtain ⟨h1, h2, h3⟩ := own_sortedG encSty 2 (fun _ => rfl) (m := n) (os := os) h hsz
    refine ⟨rfl, d'.toList, by simpa using hpm, hso.imp (fun {x y} h => by rw [ltOf_ordSty] at h; simp at h; omega), ?_, RowKit.Below.mono h2 hb, h3⟩
    rw [show d'.toList.length = l.length by simpa using hsz]
    exact h1
end Go.Proofs.Ytamcbiajicnbfaa
namespace Go.Proofs.Ytamcbiajicnbfaa
open Go.RowKit Go.Shelf Go.Sort Go.Lib
set_option linter.unusedVariables false
set_option linter.unusedSimpArgs false

def encStr (x : Str) : List Value := [.int .i64 x.a, .int .i64 x.b, .int .i64 x.s.t, .int .i64 x.s.v, .int .i64 x.s.q]
instance : Inhabited Str := ⟨⟨0, 0, ⟨0, 0, 0⟩⟩⟩
def ordStr (x y : Str) : Int := cmpI x.s.v y.s.v
theorem cmpI_less (x y : Int) : decide (cmpI x y < 0) = decide (x < y) := by
  unfold cmpI
  by_cases h : x < y
  · simp [h]
  · by_cases h2 : x = y <;> simp [h] <;> (try split) <;> omega
theorem ltOf_ordStr (x y : Str) : ltOf ordStr x y = decide (x.s.v < y.s.v) := by unfold ltOf ordStr; exact cmpI_less x.s.v y.s.v
theorem swo_ordStr : SWO (ltOf ordStr) where
  irrefl x := by rw [ltOf_ordStr]; simp
  trans x y z h1 h2 := by rw [ltOf_ordStr] at *; simp at *; omega
  ntrans x y z h1 h2 := by rw [ltOf_ordStr] at *; simp at *; omega
theorem encStr_one (x : Str) : ∀ v ∈ encStr x, v.oneCell' = true := fun v hv => by
  simp [encStr] at hv
  rcases hv with rfl | rfl | rfl | rfl | rfl <;> rfl

theorem medianOf1_any (x y : Str) (w : World) :
    Calls Try.prog 152 #[.agg #[.int .i64 x.a, .int .i64 x.b, .int .i64 x.s.t, .int .i64 x.s.v, .int .i64 x.s.q], .agg #[.int .i64 y.a, .int .i64 y.b, .int .i64 y.s.t, .int .i64 y.s.v, .int .i64 y.s.q]] w fun e w' => e = .returned (.int .i64 (cmpI x.s.v y.s.v)) ∧ ∃ q os', w' = grow (w.drewN q) os' := by
  go_enter Try.func152, Try.ntmps152
  go_wp2_with (go_at_call 117; refine (compare_any _ _ _).mono ?_; rintro e w' ⟨rfl, rfl⟩)
  go_ret
  exact ⟨rfl, 0, _, by rw [alloc_eq_grow, alloc_eq_grow, grow_grow]; rfl⟩
theorem enter_medianOf1 (args : Array Value) (w : World) : (callFunc 152 args).run Try.prog w = .ok (.enter 152 args) w := by kernel_rfl
theorem cmpLays_ordStr (blk off size : Nat) (w : World) : CmpLays Try.prog 152 #[] encStr 5 ordStr blk off size w :=
  fun _ _ _ _ x y => medianOf1_any x y _

set_option maxHeartbeats 1000000 in
theorem insStr_none (p : Option Addr) (cap : Nat) (fv : Value) (w : World) :
    Calls Try.prog 205 #[.slice p 0 cap, .int .i64 0, .int .i64 0, fv] w fun e w' => e = .returned (.tuple #[]) ∧ w' = w := by
  go_enter Try.func205, Try.ntmps205
  go_wp2
  refine wp_loop_rounds 1 ?_
  rw [rounds_succ]
  go_wp2
  go_end0
  exact ⟨rfl, rfl⟩

theorem insStr_any (v : Value) (l : List Str) (base : Nat) (w : World) (hlong : l.length ≤ 19) (h : w.ownsRow base 192 5 v l.length (strCells l)) :
    Calls Try.prog 205 #[v, .int .i64 0, .int .i64 (l.length : Int), .func (.func 152) #[] #[]] w fun e w' => e = .returned (.tuple #[]) ∧
      ∃ l' : List Str, l'.Perm l ∧ l'.Pairwise (fun x y => x.s.v ≤ y.s.v) ∧ w'.ownsRow base 192 5 v l'.length (strCells l') ∧ RowKit.Below base w w' := by
  rcases h.2 with ⟨rfl, h0⟩ | ⟨g, cap, cur, rfl, hb, hg, hn, hm, hs, ht⟩
  · obtain rfl := List.eq_nil_of_length_eq_zero h0
    refine (insStr_none none 0 _ w).mono ?_
    rintro e w' ⟨rfl, rfl⟩
    exact ⟨rfl, [], .refl _, .nil, h, RowKit.Below.refl _ _⟩
  · have hc := AnyQ.insertionSortCmpFunc Try.insStr 5 Try.isAgg192 Try.sizeOf192 encStr (fun _ => rfl) encStr_one ordStr 152 #[] g 0 cap 0 l.length l.toArray w enter_medianOf1 (cmpLays_ordStr _ _ _ _) (holds_of_own encStr 5 (fun _ => rfl) l h) (lt_of_heap hg) (Nat.zero_le _) (by simp) (by simp; omega)
    refine (show Calls Try.prog 205 #[.slice (some ⟨g, 0, none⟩) l.length cap, .int .i64 0, .int .i64 (l.length : Int), .func (.func 152) #[] #[]] w _ from hc).mono ?_
    rintro e w' ⟨rfl, n, os, rfl⟩
    have hio := insertionSort_holds (lt := ltOf ordStr) swo_ordStr l.toArray 0 l.toArray.size (Nat.zero_le _) (Nat.le_refl _)
    rw [show l.length = l.toArray.size by simp]
    generalize Sort.insertionSort (ltOf ordStr) l.toArray 0 l.toArray.size = d' at *
    obtain ⟨hp, hsd⟩ := hio
    have hsz : d'.size = l.length := by have := hp.1; simpa using this
    have hpm := perm_of hp
    have hso := sorted_of (lt := ltOf ordStr) (d := d') (by rw [hp.1]; exact hsd)
    obtain ⟨h1, h2, h3⟩ := own_sortedG encStr 5 (fun _ => rfl) (m := n) (os := os) h hsz
    refine ⟨rfl, d'.toList, by simpa using hpm, hso.imp (fun {x y} h => by rw [ltOf_ordStr] at h; simp at h; omega), ?_, RowKit.Below.mono h2 hb⟩
    rw [show d'.toList.length = l.length by simpa using hsz, show l.toArray.size = l.length by simp]
    exact h1

set_option maxHeartbeats 2000000 in
theorem stableStr_any (v : Value) (l : List Str) (base : Nat) (w : World) (hlong : l.length ≤ 19) (h : w.ownsRow base 192 5 v l.length (strCells l)) :
    Calls Try.prog 186 #[v, .int .i64 (l.length : Int), .func (.func 152) #[] #[]] w fun e w' => e = .returned (.tuple #[]) ∧
      ∃ l' : List Str, l'.Perm l ∧ l'.Pairwise (fun x y => x.s.v ≤ y.s.v) ∧ w'.ownsRow base 192 5 v l'.length (strCells l') ∧ RowKit.Below base w w' := by
  have HI := Lib.hid (insStr_any v l base w hlong h)
  clear h
  go_enter Try.func186, Try.ntmps186
  go_wp2
  refine wp_loop_rounds 1 ?_
  rw [rounds_succ]
  go_wp2_with (go_at_call 205; refine HI.out.mono ?_; rintro e w' ⟨rfl, hw⟩; have HW := Lib.hid hw; clear hw HI)
  refine wp_loop_rounds 1 ?_
  rw [rounds_succ]
  go_wp2
  go_end0
  exact ⟨rfl, HW.out⟩
theorem sortStr_any (v : Value) (l : List Str) (base : Nat) (w : World) (hlong : l.length ≤ 19) (h : w.ownsRow base 192 5 v l.length (strCells l)) :
    Calls Try.prog 151 #[v, .func (.func 152) #[] #[]] w fun e w' => e = .returned (.tuple #[]) ∧
      ∃ l' : List Str, l'.Perm l ∧ l'.Pairwise (fun x y => x.s.v ≤ y.s.v) ∧ w'.ownsRow base 192 5 v l'.length (strCells l') ∧ RowKit.Below base w w' := by
  have HI := Lib.hid (stableStr_any v l base w hlong h)
  obtain ⟨pr, cr, rfl⟩ : ∃ pr cr, v = .slice pr l.length cr := RdStr.lenv (Rd.of_own h)
  clear h
  go_enter Try.func151, Try.ntmps151
  go_wp2_with (go_at_call 186; refine HI.out.mono ?_; rintro e w' ⟨rfl, hw⟩; have HW := Lib.hid hw; clear hw HI)
  go_end0
  exact ⟨rfl, HW.out⟩
end Go.Proofs.Ytamcbiajicnbfaa
