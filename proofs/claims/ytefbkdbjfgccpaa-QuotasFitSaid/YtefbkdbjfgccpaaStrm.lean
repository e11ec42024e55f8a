/- The contracts of the stream of numbers (package logmake): what each call returns and what it leaves of memory. No condition but a bound on how many numbers were handed out. -/
import Derived.Test.YtefbkdbjfgccpaaRows
import Derived.WalkKit
import Derived.WalkSpells
import Derived.WalkLawsBesides
import Derived.Deep.QuietTactic
import Derived.BigQuiet
import Derived.Lib.Hide
namespace Go.Proofs.Ytefbkdbjfgccpaa
open Go.RowKit
set_option linter.unusedVariables false
set_option linter.unusedSimpArgs false

def redu (x n : Int) : Int := if n < 1 then 0 else x % n

theorem tmod_neg (x n : Int) (h : 1 ≤ n) (h' : x.tmod n < 0) : x.tmod n + n = x % n := by
  have h1 := Int.tmod_eq_emod (a := x) (b := n)
  have h2 := Int.emod_nonneg x (b := n) (by omega)
  have h3 := Int.emod_lt_of_pos x (b := n) (by omega)
  have : (n.natAbs : Int) = n := by omega
  rw [h1] at h' ⊢
  split <;> split at h' <;> omega
theorem tmod_pos (x n : Int) (h : 1 ≤ n) (h' : 0 ≤ x.tmod n) : x.tmod n = x % n := by
  have h1 := Int.tmod_eq_emod (a := x) (b := n)
  have h2 := Int.emod_nonneg x (b := n) (by omega)
  have h3 := Int.emod_lt_of_pos x (b := n) (by omega)
  have : (n.natAbs : Int) = n := by omega
  rw [h1] at h' ⊢
  split <;> split at h' <;> omega

theorem addr_add_block (a : Addr) (n : Nat) : (a.add n).block = a.block := by unfold Addr.add; split <;> rfl
theorem ret_int {k : IntKind} {a b : Int} (h : a = b) : Ending.returned (.int k a) = .returned (.int k b) := by rw [h]

set_option maxHeartbeats 400000 in
theorem below_any (x n : Int) (w : World) (hx : -9223372036854775808 ≤ x ∧ x ≤ 9223372036854775807) (hn : -9223372036854775808 ≤ n ∧ n ≤ 9223372036854775807) :
    Calls Try.prog 29 #[.int .i64 x, .int .i64 n] w fun e w' => e = .returned (.int .i64 (redu x n)) ∧ w = w' := by
  by_cases h1 : n < 1
  · go_enter Try.func29, Try.ntmps29
    go_wp2
    go_ret
    exact ⟨ret_int (by simp [redu, h1]), rfl⟩
  · by_cases h2 : x.tmod n < 0
    · have h3 := tmod_neg x n (by omega) h2
      have h4 : -9223372036854775808 ≤ x.tmod n + n ∧ x.tmod n + n ≤ 9223372036854775807 := by
        have h5 := Int.emod_nonneg x (b := n) (by omega)
        have h6 := Int.emod_lt_of_pos x (b := n) (by omega)
        omega
      have H3 := Lib.hid h3
      clear h3
      go_enter Try.func29, Try.ntmps29
      go_wp2
      go_ret
      exact ⟨ret_int (by rw [H3.out, redu, if_neg (by omega)]), rfl⟩
    · have h3 := tmod_pos x n (by omega) (by omega)
      have H3 := Lib.hid h3
      clear h3
      go_enter Try.func29, Try.ntmps29
      go_wp2
      go_ret
      exact ⟨ret_int (by rw [H3.out, redu, if_neg (by omega)]), rfl⟩

/-- Block g is a stream: its numbers L lie below it, k of them were handed out. -/
structure Strm (w : World) (g : Nat) (L : List Int) (A : Option Addr) (cap : Nat) (k : Nat) : Prop where
  blk : w.heap[g]? = some (.cells #[.slice A L.length cap, .int .i64 (k : Int)] 25 (0, 0))
  cells : ∀ i, i < L.length → ∃ ad : Addr, A = some ad ∧ ad.block < g ∧ w.cell? (ad.add i) = some (.int .i64 (L.getD i 0))
  long : L.length ≤ 9223372036854775807
  wf : ∀ i, -9223372036854775808 ≤ L.getD i 0 ∧ L.getD i 0 ≤ 9223372036854775807

/-- The number that a stream hands out. -/
def nxt (L : List Int) (k : Nat) (n : Int) : Int :=
  if L.length = 0 then redu ((k + 1) * 7919) n
  else redu (redu (L.getD (k % L.length) 0) 1073741824 + ((k / L.length : Nat) : Int) * (7919 + ((k % L.length : Nat) : Int))) n

theorem nxt_bounds (k n : Nat) (hk : k ≤ 1000000000) (hn : 0 < n) :
    (0 ≤ (k : Int) / n ∧ (k : Int) / n ≤ 1000000000) ∧ (0 ≤ (k : Int) % n ∧ (k : Int) % n ≤ 1000000000) ∧ (0 ≤ (k : Int) / n * (7919 + (k : Int) % n) ∧ (k : Int) / n * (7919 + (k : Int) % n) ≤ 10000000000000) := by
  have h1 : (k : Int) / n = ((k / n : Nat) : Int) := rfl
  have h2 : (k : Int) % n = ((k % n : Nat) : Int) := rfl
  have h3 : k / n ≤ k := Nat.div_le_self k n
  have h4 : k % n ≤ k := Nat.mod_le k n
  have h5 : k / n * n ≤ k := Nat.div_mul_le_self k n
  have h6 : k % n < n := Nat.mod_lt _ hn
  have h7 : k / n * (k % n) ≤ k := Nat.le_trans (Nat.mul_le_mul_left _ (by omega)) h5
  have h8 : (k : Int) / n * (7919 + (k : Int) % n) = ((k / n * 7919 + k / n * (k % n) : Nat) : Int) := by
    show ((k / n : Nat) : Int) * (7919 + ((k % n : Nat) : Int)) = _
    generalize k / n = a
    generalize k % n = b
    rw [Int.natCast_add, Int.natCast_mul, Int.natCast_mul, Int.mul_add]
    rfl
  rw [h8, h1, h2]
  omega
theorem redu_range (x n : Int) (h : 0 < n) : 0 ≤ redu x n ∧ redu x n < n := by
  unfold redu
  rw [if_neg (by omega)]
  exact ⟨Int.emod_nonneg x (by omega), Int.emod_lt_of_pos x h⟩
set_option maxHeartbeats 400000 in
theorem next_any (w : World) (g : Nat) (L : List Int) (A : Option Addr) (cap k : Nat) (n : Int) (hS : Strm w g L A cap k) (hk : k ≤ 1000000000) (hn : 0 ≤ n ∧ n ≤ 4611686018427387904) :
    Calls Try.prog 17 #[.pointer (some ⟨g, 0, none⟩), .int .i64 n] w fun e w' => e = .returned (.int .i64 (nxt L k n)) ∧ ∃ m, w' = (w.setCell ⟨g, 1, none⟩ (.int .i64 ((k + 1 : Nat) : Int))).drewN m := by
  obtain ⟨hb, hc, hl, hwf⟩ := hS
  have c0 : w.cell? ⟨g, 0, none⟩ = some (.slice A L.length cap) := by simp [World.cell?, hb]
  have c1 : w.cell? ⟨g, 1, none⟩ = some (.int .i64 (k : Int)) := by simp [World.cell?, hb]
  have f1 : w.frozen? ⟨g, 1, none⟩ = false := by simp [World.frozen?, hb]
  by_cases hL : L.length = 0
  · have hL' : ((L.length : Int) == 0) = true := by simp [hL]
    have HL := Lib.hid hL
    clear hL hb hc hwf
    go_enter Try.func17, Try.ntmps17
    go_wp2_with (go_at_call 29; refine (below_any _ _ _ (by omega) (by omega)).mono ?_; rintro e w' ⟨rfl, rfl⟩)
    go_ret
    exact ⟨ret_int (by unfold nxt; rw [if_pos HL.out]), 0, rfl⟩
  · have hL' : ((L.length : Int) == 0) = false := by simpa using hL
    have hL0 : 0 < L.length := by omega
    obtain ⟨ad, rfl, hadg, hcell⟩ := hc (k % L.length) (Nat.mod_lt _ hL0)
    have hi : k % L.length < L.length := Nat.mod_lt _ hL0
    have hcell' : (w.setCell ⟨g, 1, none⟩ (.int .i64 ((k : Int) + 1))).cell? (ad.add (k % L.length)) = some (.int .i64 (L.getD (k % L.length) 0)) :=
      (World.cell?_setCell_other w _ _ _ (fun e => by have := congrArg Addr.block e; rw [addr_add_block] at this; simp at this; omega)).trans hcell
    obtain ⟨⟨q1, q2⟩, ⟨q3, q4⟩, q5, q6⟩ := nxt_bounds k L.length hk hL0
    have q7 := redu_range (L.getD (k % L.length) 0) 1073741824 (by omega)
    have q8 := hwf (k % L.length)
    have hfin : nxt L k n = redu (redu (L.getD (k % L.length) 0) 1073741824 + (k : Int) / L.length * (7919 + (k : Int) % L.length)) n := by
      unfold nxt
      rw [if_neg (by omega)]
      rfl
    generalize L.getD (k % L.length) 0 = z at *
    have Hfin := Lib.hid hfin
    clear hL hb hc hcell hwf hfin
    go_enter Try.func17, Try.ntmps17
    go_wp2_with fail
    go_quiet (fail)
    go_wp2_with fail
    go_quiet (fail)
    go_wp2_with (go_at_call 29; refine (below_any _ _ _ (by omega) (by omega)).mono ?_; rintro e w' ⟨rfl, rfl⟩)
    go_ret
    exact ⟨ret_int Hfin.out.symm, _, rfl⟩

theorem Strm.next {w : World} {g : Nat} {L : List Int} {A : Option Addr} {cap k : Nat} (h : Strm w g L A cap k) (m : Nat) :
    Strm ((w.setCell ⟨g, 1, none⟩ (.int .i64 ((k + 1 : Nat) : Int))).drewN m) g L A cap (k + 1) := by
  obtain ⟨hb, hc, hl, hwf⟩ := h
  refine ⟨?_, fun i hi => ?_, hl, hwf⟩
  · show ((w.setCell _ _).heap)[g]? = _
    simp [World.setCell, Array.getElem?_modify, hb]
  · obtain ⟨ad, e, hg, hcell⟩ := hc i hi
    refine ⟨ad, e, hg, ?_⟩
    show (w.setCell _ _).cell? _ = _
    exact (World.cell?_setCell_other w _ _ _ (fun e => by have := congrArg Addr.block e; rw [addr_add_block] at this; simp at this; omega)).trans hcell

/-- From w to w' nothing of memory has turned but block g; what was there is there. -/
structure But (g : Nat) (w w' : World) : Prop where
  os : w'.os = w.os
  tape : w'.tape = w.tape
  output : w'.output = w.output
  size : w.heap.size ≤ w'.heap.size
  block : ∀ b, b < w.heap.size → b ≠ g → w'.heap[b]? = w.heap[b]?

theorem But.refl (g : Nat) (w : World) : But g w w := ⟨rfl, rfl, rfl, Nat.le_refl _, fun _ _ _ => rfl⟩
theorem But.trans {g : Nat} {a b c : World} (h : But g a b) (k : But g b c) : But g a c :=
  ⟨k.os.trans h.os, k.tape.trans h.tape, k.output.trans h.output, Nat.le_trans h.size k.size, fun i hi hg => (k.block i (Nat.lt_of_lt_of_le hi h.size) hg).trans (h.block i hi hg)⟩
theorem But.drewN {g : Nat} {a b : World} (h : But g a b) (m : Nat) : But g a (b.drewN m) := ⟨h.os, h.tape, h.output, h.size, h.block⟩
theorem But.drew {g : Nat} {a b : World} (h : But g a b) : But g a b.drew := ⟨h.os, h.tape, h.output, h.size, h.block⟩
theorem But.alloc {g : Nat} {a b : World} (h : But g a b) (o : Obj) : But g a (b.alloc o) :=
  h.trans ⟨rfl, rfl, rfl, by simp, fun k hk _ => Below.heap_alloc _ _ _ hk⟩
theorem But.setCell {g : Nat} {a b : World} (h : But g a b) {p : Addr} (hp : p.block = g ∨ a.heap.size ≤ p.block) (u : Value) : But g a (b.setCell p u) :=
  ⟨h.os, h.tape, h.output, by simpa [World.setCell] using h.size, fun i hi hg => by
    rw [Below.heap_setCell _ _ _ _ (by omega)]; exact h.block i hi hg⟩
theorem But.below {g : Nat} {a b c : World} (h : But g a b) (k : Below b.heap.size b c) : But g a c :=
  h.trans ⟨k.os, k.tape, k.output, k.size, fun i hi _ => k.block i hi⟩
theorem But.toBelow {g : Nat} {a b : World} (h : But g a b) (hg : a.heap.size ≤ g) : Below a.heap.size a b :=
  ⟨h.os, h.tape, h.output, h.size, fun i hi => h.block i hi (by omega)⟩
theorem Strm.lt {w : World} {g : Nat} {L : List Int} {A : Option Addr} {cap k : Nat} (h : Strm w g L A cap k) : g < w.heap.size := by
  rcases Nat.lt_or_ge g w.heap.size with hlt | hge
  · exact hlt
  · have := h.blk; rw [Array.getElem?_eq_none hge] at this; cases this
/-- A stream that is not turned stays. -/
theorem Strm.below {w w' : World} {g B : Nat} {L : List Int} {A : Option Addr} {cap k : Nat} (h : Strm w g L A cap k) (hb : Below B w w') (hB : g < B) : Strm w' g L A cap k := by
  obtain ⟨b, hc, hl, hwf⟩ := h
  exact ⟨(hb.block g hB).trans b, fun i hi => by
    obtain ⟨ad, e, hg, hcell⟩ := hc i hi
    exact ⟨ad, e, hg, (hb.cell (by rw [addr_add_block]; omega)).trans hcell⟩, hl, hwf⟩
theorem Strm.alloc {w : World} {g : Nat} {L : List Int} {A : Option Addr} {cap k : Nat} (h : Strm w g L A cap k) (o : Obj) : Strm (w.alloc o) g L A cap k :=
  h.below ((Below.refl w.heap.size w).alloc (Nat.le_refl _) o) h.lt
theorem Strm.drewN {w : World} {g : Nat} {L : List Int} {A : Option Addr} {cap k : Nat} (h : Strm w g L A cap k) (m : Nat) : Strm (w.drewN m) g L A cap k :=
  ⟨h.blk, h.cells, h.long, h.wf⟩
theorem Strm.drew {w : World} {g : Nat} {L : List Int} {A : Option Addr} {cap k : Nat} (h : Strm w g L A cap k) : Strm w.drew g L A cap k :=
  ⟨h.blk, h.cells, h.long, h.wf⟩

/-- What a call on a stream leaves: the stream some numbers on, and nothing else turned. -/
def Went (w : World) (g : Nat) (L : List Int) (A : Option Addr) (cap k : Nat) (w' : World) : Prop := Strm w' g L A cap k ∧ But g w w'

theorem next_went (w : World) (g : Nat) (L : List Int) (A : Option Addr) (cap k : Nat) (n : Int) (hS : Strm w g L A cap k) (hk : k ≤ 1000000000) (hn : 0 ≤ n ∧ n ≤ 4611686018427387904) :
    Calls Try.prog 17 #[.pointer (some ⟨g, 0, none⟩), .int .i64 n] w fun e w' => e = .returned (.int .i64 (nxt L k n)) ∧ Went w g L A cap (k + 1) w' ∧ w'.heap.size = w.heap.size := by
  refine (next_any w g L A cap k n hS hk hn).mono ?_
  rintro e w' ⟨he, m, rfl⟩
  exact ⟨he, ⟨hS.next m, ((But.refl g w).setCell (.inl rfl) _).drewN m⟩, by simp [World.setCell]⟩

theorem nxt_range (L : List Int) (k : Nat) (n : Int) (h : 0 < n) : 0 ≤ nxt L k n ∧ nxt L k n < n := by
  unfold nxt
  split <;> exact redu_range _ n h

set_option maxHeartbeats 400000 in
theorem flip_went (w : World) (g : Nat) (L : List Int) (A : Option Addr) (cap k : Nat) (n : Int) (hS : Strm w g L A cap k) (hk : k ≤ 1000000000) (hn : 0 ≤ n ∧ n ≤ 4611686018427387904) :
    Calls Try.prog 6 #[.pointer (some ⟨g, 0, none⟩), .int .i64 n] w fun e w' => e = .returned (.bool (nxt L k n == 0)) ∧ Went w g L A cap (k + 1) w' ∧ w'.heap.size = w.heap.size := by
  go_enter Try.func6, Try.ntmps6
  go_wp2_with (go_at_call 17; refine (next_went _ g L A cap k n hS hk hn).mono ?_; rintro e w' ⟨rfl, hw, hz⟩)
  go_ret
  exact ⟨rfl, hw, hz⟩

set_option maxHeartbeats 400000 in
theorem range_went (w : World) (g : Nat) (L : List Int) (A : Option Addr) (cap k : Nat) (a b : Int) (hS : Strm w g L A cap k) (hk : k ≤ 1000000000) (ha : -1000000000000 ≤ a) (hab : a ≤ b) (hb : b ≤ 1000000000000) :
    Calls Try.prog 28 #[.pointer (some ⟨g, 0, none⟩), .int .i64 a, .int .i64 b] w fun e w' => e = .returned (.int .i64 (a + nxt L k (b - a + 1))) ∧ Went w g L A cap (k + 1) w' ∧ w'.heap.size = w.heap.size := by
  have h1 := nxt_range L k (b - a + 1) (by omega)
  go_enter Try.func28, Try.ntmps28
  go_wp2_with (go_at_call 17; refine (next_went _ g L A cap k _ hS hk (by omega)).mono ?_; rintro e w' ⟨rfl, hw, hz⟩)
  go_ret
  exact ⟨rfl, hw, hz⟩
end Go.Proofs.Ytefbkdbjfgccpaa
