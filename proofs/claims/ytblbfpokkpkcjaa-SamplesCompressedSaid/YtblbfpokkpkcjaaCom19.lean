import Derived.Test.YtblbfpokkpkcjaaCom02
import Derived.Test.YtblbfpokkpkcjaaCom18
import Derived.Test.YtblbfpokkpkcjaaCom16
/- Mathematics of fitting: a list fits exactly if it is a way from the first sample to the last. -/

namespace Go.Proofs.Ytblbfpokkpkcjaa
set_option linter.unusedVariables false
set_option linter.unusedSimpArgs false

/-- Naturals as indices. -/
def intsN (c : List Nat) : List Int := c.map fun (x : Nat) => (x : Int)
theorem pairs_way (d m : Int) (l : List Smp) (r : List Nat) (x : Nat) :
    Way (nextB d m l) l.length (x :: r) ↔ (intsN (x :: r)).getLast? = some ((l.length : Int) - 1) ∧ pairsB d m l (intsN (x :: r)) = true := by
  induction r generalizing x with
  | nil =>
    simp only [Way, intsN, List.map_cons, List.map_nil, pairsB, List.getLast?_singleton, Option.some.injEq, and_true]
    omega
  | cons y r ih =>
    have h1 : Way (nextB d m l) l.length (x :: y :: r) ↔ nextB d m l x y = true ∧ Way (nextB d m l) l.length (y :: r) := Iff.rfl
    have h2 : (intsN (x :: y :: r)).getLast? = (intsN (y :: r)).getLast? := by
      simp only [intsN, List.map_cons, List.getLast?_cons_cons]
    have h3 : pairsB d m l (intsN (x :: y :: r)) = (nextB d m l x y && pairsB d m l (intsN (y :: r))) := by
      simp only [intsN, List.map_cons, pairsB, Int.toNat_natCast]
    rw [h1, h2, h3, ih y, Bool.and_eq_true]
    constructor
    · rintro ⟨a, b, c⟩; exact ⟨b, a, c⟩
    · rintro ⟨b, a, c⟩; exact ⟨a, b, c⟩
theorem fits_way (d m : Int) (l : List Smp) (hl : 0 < l.length) (c : List Nat) :
    fitsB d m l (intsN c) = true ↔ ∃ r, c = 0 :: r ∧ Way (nextB d m l) l.length c := by
  unfold fitsB
  rw [if_neg (by omega)]
  cases c with
  | nil =>
    simp [intsN]
  | cons x r =>
    rw [Bool.and_eq_true, Bool.and_eq_true, decide_eq_true_eq, decide_eq_true_eq, pairs_way]
    have h0 : (intsN (x :: r)).head? = some 0 ↔ x = 0 := by
      simp only [intsN, List.map_cons, List.head?_cons, Option.some.injEq]; omega
    rw [h0]
    constructor
    · rintro ⟨⟨a, b⟩, c⟩; exact ⟨r, by rw [a], b, c⟩
    · rintro ⟨r', e, b, c⟩; exact ⟨⟨(List.cons.inj e).1, b⟩, c⟩
/-- What shortest makes is a table of the fewest steps. -/
theorem tab_next {d m : Int} {l : List Smp} {f nx : Nat → Nat} (h : ∀ i, i < l.length → (nx i, f i) = bestTo (nextB d m l i) f l.length l.length) : Tab (nextB d m l) l.length f nx where
  up := fun a b h => by
    unfold nextB at h
    rw [Bool.and_eq_true, decide_eq_true_eq] at h
    exact h.1
  one := fun a _ => by
    unfold nextB
    simp
  eq := h
/-- The way that Minimum goes is the one that MinimumOf finds. -/
theorem min_way {d m : Int} {l : List Smp} {f nx : Nat → Nat} (hl : 0 < l.length) (h : ∀ i, i < l.length → (nx i, f i) = bestTo (nextB d m l i) f l.length l.length) :
    minTo (fun c => fitsB d m l (intsN c)) l.length (2 ^ l.length) = pathN nx l.length l.length 0 :=
  minTo_way (tab_next h) hl _ fun c _ _ => fits_way d m l hl c
/-- Places before i + 1 hold no step from i: the best next step is the best of those from i + 1 on. -/
theorem bestTo_skip (d m : Int) (l : List Smp) (f : Nat → Nat) (n i k : Nat) (hk : k ≤ i + 1) : bestTo (nextB d m l i) f n k = (n, 0) := by
  induction k with
  | zero => rfl
  | succ k ih =>
    simp only [bestTo]
    rw [if_neg, ih (by omega)]
    rintro ⟨h, _⟩
    unfold nextB at h
    rw [Bool.and_eq_true, decide_eq_true_eq] at h
    omega
theorem bestTo_congr (E : Nat → Bool) (f g : Nat → Nat) (n k : Nat) (h : ∀ j, j < k → E j = true → f j = g j) : bestTo E f n k = bestTo E g n k := by
  induction k with
  | zero => rfl
  | succ k ih =>
    simp only [bestTo]
    rw [ih (fun j hj => h j (by omega))]
    by_cases hE : E k = true
    · rw [h k (by omega) hE]
    · rw [if_neg (fun x => hE x.1), if_neg (fun x => hE x.1)]
end Go.Proofs.Ytblbfpokkpkcjaa

/- The contract of spans (package compress). -/

namespace Go.Proofs.Ytblbfpokkpkcjaa
open Go.RowKit
set_option linter.unusedVariables false
set_option linter.unusedSimpArgs false

theorem But.after {g s : Nat} {w a b : World} (h : But g w a) (hs : w.heap.size ≤ s) (k : But s a b) : But g w b :=
  ⟨k.os.trans h.os, k.tape.trans h.tape, k.output.trans h.output, Nat.le_trans h.size k.size, fun i hi hne => (k.block i (Nat.lt_of_lt_of_le hi h.size) (by omega)).trans (h.block i hi hne)⟩
theorem But.rdS {g : Nat} {w a : World} {v : Value} {l : List Smp} {t : TypeId} {cs : Array Value} (h : But g w a) (hR : RdS w 71 v l) (hg : Blk w g t cs) (ht : t ≠ 71) : RdS a 71 v l :=
  Rd.keep hR fun b cur fr hb => h.block b (lt_of_heap hb) (fun e => by subst e; rw [show w.heap[b]? = _ from hg] at hb; cases hb; exact ht rfl)

theorem enter_spans1 (args : Array Value) (w : World) : (callFunc 170 args).run Try.prog w = .ok (.enter 170 args) w := by kernel_rfl
theorem spans1_any (i : Nat) (bl bf n c : Nat) (pa : Option Addr) (u : Value) (w : World) (hl : Blk w bl 32 #[.slice pa n c]) (hf : Blk w bf 4 #[u]) (hn : n ≤ 5000) (hi : i ≤ 5000) :
    Calls Try.prog 170 (#[.int .i64 (i : Int)] ++ #[.pointer (some ⟨bl, 0, none⟩), .pointer (some ⟨bf, 0, none⟩)]) w fun e w' => e = .returned (.tuple #[]) ∧ w' = w.setCell ⟨bf, 0, none⟩ (.bool (decide (i + 1 = n))) := by
  have c0 := hl.cell 0
  have c1 := hf.cell 0
  have c2 := hf.frozen 0
  have hw : IntKind.i64.wrap ((n : Int) - 1) = (n : Int) - 1 := IntWalk.i64_in _ (by omega)
  have hd : ((i : Int) == (n : Int) - 1) = decide (i + 1 = n) := by
    rw [Bool.eq_iff_iff, beq_iff_eq, decide_eq_true_eq]; omega
  generalize decide (i + 1 = n) = D at *
  show Calls _ _ #[.int .i64 (i : Int), .pointer (some ⟨bl, 0, none⟩), .pointer (some ⟨bf, 0, none⟩)] _ _
  go_enter Try.func170, Try.ntmps170
  go_wp2_with fail
  go_end0
  exact ⟨rfl, rfl⟩

set_option maxRecDepth 100000 in
set_option maxHeartbeats 4000000 in
theorem spans_any (d m : Int) (v : Value) (l : List Smp) (w : World) (hR : RdS w 71 v l) (hl : 2 ≤ l.length) (hlong : l.length ≤ 5000) (hfit : FitL l) (hd : 0 ≤ d ∧ d ≤ 2000000) :
    Calls Try.prog 109 #[.agg #[.int .i64 d, .int .i64 m], v] w fun e w' => e = .returned (.bool (nextB d m l 0 (l.length - 1))) ∧ Below w.heap.size w w' := by
  obtain ⟨pa, ca, rfl⟩ := hR.lenv
  have hbw : Below w.heap.size w (((w.alloc (.cells #[.int .i64 d, .int .i64 m] 30)).alloc (.cells #[.slice pa l.length ca] 32)).alloc (.cells #[.bool false] 4)) := (((Below.refl _ w).alloc (Nat.le_refl _) _).alloc (by simp) _).alloc (by simp; omega) _
  have bd0 : Blk (((w.alloc (.cells #[.int .i64 d, .int .i64 m] 30)).alloc (.cells #[.slice pa l.length ca] 32)).alloc (.cells #[.bool false] 4)) w.heap.size 30 #[.int .i64 d, .int .i64 m] := ((Blk.new w _ _).alloc _).alloc _
  have bl0 : Blk (((w.alloc (.cells #[.int .i64 d, .int .i64 m] 30)).alloc (.cells #[.slice pa l.length ca] 32)).alloc (.cells #[.bool false] 4)) (w.heap.size + 1) 32 #[.slice pa l.length ca] := (Blk.new1 _ _ _ _).alloc _
  have bf0 : Blk (((w.alloc (.cells #[.int .i64 d, .int .i64 m] 30)).alloc (.cells #[.slice pa l.length ca] 32)).alloc (.cells #[.bool false] 4)) (w.heap.size + 1 + 1) 4 #[.bool false] := by
    have := Blk.new ((w.alloc (.cells #[.int .i64 d, .int .i64 m] 30)).alloc (.cells #[.slice pa l.length ca] 32)) 4 #[.bool false]
    simpa using this
  have hRb := Rd.below hR hbw
  go_enter Try.func109, Try.ntmps109
  go_upto_region 2 with fail
  generalize ((w.alloc (.cells #[.int .i64 d, .int .i64 m] 30)).alloc (.cells #[.slice pa l.length ca] 32)).alloc (.cells #[.bool false] 4) = W at *
  have e0 := bd0.cell 0
  have e1 := bd0.cell 1
  have e2 := bl0.cell 0
  have hlb := bl0.lt
  have hfb := bf0.lt
  have HE := Lib.hid (eachNext_any 170 #[.pointer (some ⟨w.heap.size + 1, 0, none⟩), .pointer (some ⟨w.heap.size + 1 + 1, 0, none⟩)] d m (.slice pa l.length ca) l W
    (fun i W' => But (w.heap.size + 1 + 1) W W' ∧ Blk W' (w.heap.size + 1 + 1) 4 #[.bool (decide (i = l.length) && nextB d m l 0 (l.length - 1))])
    (by omega) hlong hfit hd enter_spans1
    (fun i W' h => h.1.rdS hRb bf0 (by decide))
    (fun i A B s hs hb h => ⟨h.1.after hs hb, (hb.block _ (by have := h.2.lt; omega) (by omega)).trans h.2⟩)
    (fun i A h0 hi hn hsz h => by
      have hl2 : Blk A (w.heap.size + 1) 32 #[.slice pa l.length ca] := (h.1.block _ hlb (by omega)).trans bl0
      refine (spans1_any i (w.heap.size + 1) (w.heap.size + 1 + 1) l.length ca pa _ A hl2 h.2 hlong (by omega)).mono ?_
      rintro e w' ⟨rfl, rfl⟩
      refine ⟨rfl, ⟨h.1.setCell (.inl rfl) _, ?_⟩, ⟨by simp, fun b hb hlt => Below.heap_setCell _ _ _ _ (by simp; omega)⟩⟩
      have h3 := h.2.set_ 0 (.bool (decide (i + 1 = l.length)))
      by_cases he : i + 1 = l.length
      · rw [show l.length - 1 = i by omega, hn]
        simpa [he] using h3
      · simpa [he] using h3)
    (fun i A hi hn h => ⟨h.1, by
      by_cases he : i + 1 = l.length
      · have h3 := h.2
        rw [show decide (i = l.length) = false by simp; omega, Bool.false_and] at h3
        rw [show l.length - 1 = i by omega, hn, Bool.and_false]; exact h3
      · have h3 := h.2
        rw [show decide (i = l.length) = false by simp; omega, Bool.false_and] at h3
        rw [show decide (i + 1 = l.length) = false by simp [he], Bool.false_and]; exact h3⟩)
    ⟨But.refl _ _, by rw [show decide (0 = l.length) = false by simp; omega, Bool.false_and]; exact bf0⟩)
  clear bd0 bl0 hlb hR
  go_wp2_with fail
  refine HE.out.mono ?_
  rintro e w2 ⟨rfl, hbt, hbf⟩
  have f0 : w2.cell? ⟨w.heap.size + 1 + 1, 0, none⟩ = some (.bool (nextB d m l 0 (l.length - 1))) := by
    have := hbf.cell 0
    simpa using this
  clear e0 e1 e2 hbf
  go_wp2_with fail
  go_ret
  exact ⟨rfl, hbw.trans ⟨hbt.os, hbt.tape, hbt.output, hbt.size, fun i hi => hbt.block i (by have := hbw.size; omega) (by omega)⟩⟩
end Go.Proofs.Ytblbfpokkpkcjaa
