import Derived.Test.YtblbfpokkpkcjaaCom03
import Derived.Test.YtblbfpokkpkcjaaCom01
/- Small laws: append of one sample, of one number, to a row of the call's own. -/

namespace Go.Proofs.Ytblbfpokkpkcjaa
open Go.RowKit
set_option linter.unusedVariables false
set_option linter.unusedSimpArgs false

theorem Blk.but {w w' : World} {b g : Nat} {t : TypeId} {cs : Array Value} (h : Blk w b t cs) (hb : But g w w') (hg : b ≠ g) : Blk w' b t cs := (hb.block b h.lt hg).trans h
theorem Strm.no {w : World} {g : Nat} {L : List Int} {A : Option Addr} {cap k : Nat} (h : Strm w g L A cap k) {e : TypeId} (he : e ≠ 25) (cur : Array Value) (fr : Nat × Nat) : w.heap[g]? ≠ some (Obj.cells cur e fr) := by
  rw [h.blk]
  intro hh
  injection hh with hh
  injection hh with _ hh
  exact he hh.symm
theorem own_but {w w' : World} {g base : Nat} {L : List Int} {A : Option Addr} {cap k : Nat} (hS : Strm w g L A cap k) {e : TypeId} (he : e ≠ 25) {size n : Nat} {v : Value} {xs : List Value} (h : w.ownsRow base e size v n xs)
    (hb : But g w w') : w'.ownsRow base e size v n xs :=
  own_keep h fun b cur fr hh => hb.block b (lt_of_heap hh) (fun ebg => by subst ebg; exact hS.no he cur fr hh)
theorem Rd.but {w w' : World} {g : Nat} {L : List Int} {A : Option Addr} {cap k : Nat} (hS : Strm w g L A cap k) {e : TypeId} (he : e ≠ 25) {size n : Nat} {v : Value} {xs : List Value} (h : Rd w e size v n xs)
    (hb : But g w w') : Rd w' e size v n xs :=
  h.keep fun b cur fr hh => hb.block b (lt_of_heap hh) (fun ebg => by subst ebg; exact hS.no he cur fr hh)
/-- A store above a stream leaves it. -/
theorem Strm.setCell {w : World} {g : Nat} {L : List Int} {A : Option Addr} {cap k : Nat} (h : Strm w g L A cap k) {p : Addr} (hp : g < p.block) (u : Value) : Strm (w.setCell p u) g L A cap k :=
  h.below (B := p.block) (((Below.refl _ _).setCell (Nat.le_refl _) u)) hp

theorem info_smp : (Try.prog.info? 71).map (fun i => (i.zero, i.size, i.bytes)) = some (some (.agg #[.int .i64 0, .int .i64 0, .int .i64 0]), 3, 24) := by kernel_rfl

/-- append of one sample that lies alone in block b. -/
theorem wpList_append_smp {w : World} {ops : Array Oper} {rest : List Oper} {o : Oper} {a : Act} {Q : Exit → Act → World → Prop} (hgd : o.guard = none) (s x : Operand)
    (ho : o.op = .call { callee := .builtin .append, args := #[s, x], argTypes := #[32, 32] })
    (base : Nat) (v : Value) (n : Nat) (l : List Smp) (hs : a.eval s = v) (hown : w.ownsRow base 71 3 v n (cellsOf l)) (b : Nat) (hx : a.eval x = .slice (some ⟨b, 0, none⟩) 1 1) (y : Smp)
    (hb : Blk w b 71 #[.int .i64 y.t, .int .i64 y.v, .int .i64 y.q]) (hn : n ≤ 100000000) (hbase : base ≤ w.heap.size)
    (h : ∀ v' w', w'.ownsRow base 71 3 v' (n + 1) (cellsOf (l ++ [y])) → w.grownBy w' v.ownBlock → wpList Try.prog ops Q rest (a.put o.dst v') w') : wpList Try.prog ops Q (o :: rest) a w := by
  obtain ⟨i0, hi0, hz0, hz1, hz2⟩ := info_parts info_smp
  refine wpList_append_own w hgd s x 32 ho base 71 i0 _ 3 24 Try.underlying32 hi0 hz0 hz1 hz2 rfl (by decide) v n _ hs hown ⟨b, 0, none⟩ 1 1 y.cells hx rfl ?_ ?_ ?_ ?_ hbase ?_
  · intro j u hu
    have hbb := hb.cell j
    have hj : j < 3 := by
      rcases Nat.lt_or_ge j 3 with hlt | hge
      · exact hlt
      · rw [List.getElem?_eq_none (by simp [Smp.cells]; exact hge)] at hu; cases hu
    have e1 : (⟨b, 0, none⟩ : Addr).add j = ⟨b, j, none⟩ := by unfold Addr.add; split <;> simp_all
    rw [e1, hbb, ← hu]
    simp [Smp.cells]
  · intro u hu
    simp [Smp.cells] at hu
    rcases hu with rfl | rfl | rfl <;> rfl
  · simp only [maxLen]; omega
  · omega
  · intro v' w' h1 h2 _
    exact h v' w' (by simpa using h1) h2
theorem Blk.new1 (w : World) (o : Obj) (t : TypeId) (cs : Array Value) : Blk ((w.alloc o).alloc (.cells cs t)) (w.heap.size + 1) t cs := by
  have := Blk.new (w.alloc o) t cs
  rwa [World.size_alloc] at this
/-- What turns nothing below the heap's size at the call's begin keeps 'Went'. -/
theorem Went.below {w w1 w2 : World} {g : Nat} {L : List Int} {A : Option Addr} {cap k : Nat} (hw : Went w g L A cap k w1) (hg : g < w.heap.size) (hb : Below w.heap.size w1 w2) : Went w g L A cap k w2 :=
  ⟨hw.1.below hb hg, hw.2.os.symm ▸ hb.os, hw.2.tape.symm ▸ hb.tape, hw.2.output.symm ▸ hb.output, Nat.le_trans hw.2.size hb.size, fun b h1 h2 => (hb.block b h1).trans (hw.2.block b h1 h2)⟩
theorem below_grown {w1 w2 : World} {B : Nat} {e : TypeId} {size n : Nat} {v : Value} {xs : List Value} (hown : w1.ownsRow B e size v n xs) (hB : B ≤ w1.heap.size) (hg : w1.grownBy w2 v.ownBlock) : Below B w1 w2 :=
  (Below.refl B w1).grown hg hB (fun k hk => (hown.lt k hk).1)
end Go.Proofs.Ytblbfpokkpkcjaa

/- The contracts of the checks of a sample (package sample, and the reference). -/

namespace Go.Proofs.Ytblbfpokkpkcjaa
open Go.RowKit
set_option linter.unusedVariables false
set_option linter.unusedSimpArgs false

def inB (n lo hi : Int) : Bool := decide (lo ≤ n ∧ n ≤ hi)
theorem inB_true {n lo hi : Int} : inB n lo hi = true ↔ lo ≤ n ∧ n ≤ hi := by simp [inB]
theorem inB_false {n lo hi : Int} : inB n lo hi = false ↔ ¬ (lo ≤ n ∧ n ≤ hi) := by simp [inB]

theorem ret_bool {a b : Bool} (h : a = b) : Ending.returned (.bool a) = .returned (.bool b) := by rw [h]

set_option maxHeartbeats 400000 in
theorem within_any (n lo hi : Int) (w : World) : Calls Try.prog 155 #[.int .i64 n, .int .i64 lo, .int .i64 hi] w fun e w' => e = .returned (.bool (inB n lo hi)) ∧ w = w' := by
  by_cases h1 : lo ≤ n
  · by_cases h2 : n ≤ hi
    · go_enter Try.func155, Try.ntmps155
      go_wp2
      go_ret
      exact ⟨ret_bool (by simp [inB, h1, h2]), rfl⟩
    · go_enter Try.func155, Try.ntmps155
      go_wp2
      go_ret
      exact ⟨ret_bool (by simp [inB]; omega), rfl⟩
  · go_enter Try.func155, Try.ntmps155
    go_wp2
    go_ret
    exact ⟨ret_bool (by simp [inB]; omega), rfl⟩

set_option maxHeartbeats 400000 in
theorem in_any (n lo hi : Int) (w : World) : Calls Try.prog 132 #[.int .i64 n, .int .i64 lo, .int .i64 hi] w fun e w' => e = .returned (.bool (inB n lo hi)) ∧ w = w' := by
  by_cases h1 : lo ≤ n
  · by_cases h2 : n ≤ hi
    · go_enter Try.func132, Try.ntmps132
      go_wp2
      go_ret
      exact ⟨ret_bool (by simp [inB, h1, h2]), rfl⟩
    · go_enter Try.func132, Try.ntmps132
      go_wp2
      go_ret
      exact ⟨ret_bool (by simp [inB]; omega), rfl⟩
  · go_enter Try.func132, Try.ntmps132
    go_wp2
    go_ret
    exact ⟨ret_bool (by simp [inB]; omega), rfl⟩

set_option maxHeartbeats 400000 in
theorem moment_any (n : Int) (w : World) : Calls Try.prog 120 #[.int .i64 n] w fun e w' => e = .returned (.bool (inB n 0 345686399999)) ∧ w = w' := by
  go_enter Try.func120, Try.ntmps120
  go_wp2_with (go_at_call 155; refine (within_any _ _ _ _).mono ?_; rintro e w' ⟨rfl, rfl⟩)
  go_ret
  exact ⟨rfl, rfl⟩
set_option maxHeartbeats 400000 in
theorem rmoment_any (n : Int) (w : World) : Calls Try.prog 165 #[.int .i64 n] w fun e w' => e = .returned (.bool (inB n 0 345686399999)) ∧ w = w' := by
  go_enter Try.func165, Try.ntmps165
  go_wp2_with (go_at_call 132; refine (in_any _ _ _ _).mono ?_; rintro e w' ⟨rfl, rfl⟩)
  go_ret
  exact ⟨rfl, rfl⟩
set_option maxHeartbeats 400000 in
theorem isQuality_any (n : Int) (w : World) : Calls Try.prog 160 #[.int .i64 n] w fun e w' => e = .returned (.bool (inB n 0 2)) ∧ w = w' := by
  go_enter Try.func160, Try.ntmps160
  go_wp2_with (go_at_call 155; refine (within_any _ _ _ _).mono ?_; rintro e w' ⟨rfl, rfl⟩)
  go_ret
  exact ⟨rfl, rfl⟩
set_option maxHeartbeats 400000 in
theorem isValue_any (n : Int) (w : World) : Calls Try.prog 135 #[.int .i64 n] w fun e w' => e = .returned (.bool (inB n (-1000000) 1000000)) ∧ w = w' := by
  go_enter Try.func135, Try.ntmps135
  go_wp2_with (go_at_call 155; refine (within_any _ _ _ _).mono ?_; rintro e w' ⟨rfl, rfl⟩)
  go_ret
  exact ⟨rfl, rfl⟩

/-- What is wrong with a sample, as the document lists it. -/
def smpErr (x : Smp) : Int :=
  if inB x.t 0 345686399999 = false then 1 else if inB x.q 0 2 = false then 4 else if inB x.v (-1000000) 1000000 = false then 1 else if x.q = 2 ∧ x.v ≠ 0 then 3 else 0

set_option maxHeartbeats 1000000 in
theorem checkSample_any (x : Smp) (w : World) : Calls Try.prog 128 #[x.agg] w fun e w' => e = .returned (.int .i64 (smpErr x)) ∧ w' = w.alloc (.cells #[.int .i64 x.t, .int .i64 x.v, .int .i64 x.q] 71) := by
  obtain ⟨t, v, q⟩ := x
  unfold Smp.agg
  have hfin : smpErr ⟨t, v, q⟩ = if inB t 0 345686399999 = false then 1 else if inB q 0 2 = false then 4 else if inB v (-1000000) 1000000 = false then 1 else if q = 2 ∧ v ≠ 0 then 3 else 0 := rfl
  generalize smpErr ⟨t, v, q⟩ = E at *
  have HF := Lib.hid hfin
  clear hfin
  by_cases hq : q = 2
  · subst hq
    by_cases hv : v = 0
    · subst hv
      go_enter Try.func128, Try.ntmps128
      go_wp2_with (first | (go_at_call 120; refine (moment_any _ _).mono ?_; rintro e w' ⟨rfl, rfl⟩) | (go_at_call 160; refine (isQuality_any _ _).mono ?_; rintro e w' ⟨rfl, rfl⟩) | (go_at_call 135; refine (isValue_any _ _).mono ?_; rintro e w' ⟨rfl, rfl⟩))
      all_goals go_ret
      all_goals exact ⟨ret_int (by rw [HF.out]; simp_all), rfl⟩
    · have hv' : (v != 0) = true := by simpa using hv
      go_enter Try.func128, Try.ntmps128
      go_wp2_with (first | (go_at_call 120; refine (moment_any _ _).mono ?_; rintro e w' ⟨rfl, rfl⟩) | (go_at_call 160; refine (isQuality_any _ _).mono ?_; rintro e w' ⟨rfl, rfl⟩) | (go_at_call 135; refine (isValue_any _ _).mono ?_; rintro e w' ⟨rfl, rfl⟩))
      all_goals go_ret
      all_goals exact ⟨ret_int (by rw [HF.out]; simp_all), rfl⟩
  · have hq' : (q == 2) = false := by simpa using hq
    go_enter Try.func128, Try.ntmps128
    go_wp2_with (first | (go_at_call 120; refine (moment_any _ _).mono ?_; rintro e w' ⟨rfl, rfl⟩) | (go_at_call 160; refine (isQuality_any _ _).mono ?_; rintro e w' ⟨rfl, rfl⟩) | (go_at_call 135; refine (isValue_any _ _).mono ?_; rintro e w' ⟨rfl, rfl⟩))
    all_goals go_ret
    all_goals exact ⟨ret_int (by rw [HF.out]; simp_all), rfl⟩

set_option maxHeartbeats 1000000 in
theorem sampleFault_any (x : Smp) (w : World) : Calls Try.prog 102 #[x.agg] w fun e w' => e = .returned (.int .i64 (smpErr x)) ∧ w' = w.alloc (.cells #[.int .i64 x.t, .int .i64 x.v, .int .i64 x.q] 71) := by
  obtain ⟨t, v, q⟩ := x
  unfold Smp.agg
  have hfin : smpErr ⟨t, v, q⟩ = if inB t 0 345686399999 = false then 1 else if inB q 0 2 = false then 4 else if inB v (-1000000) 1000000 = false then 1 else if q = 2 ∧ v ≠ 0 then 3 else 0 := rfl
  generalize smpErr ⟨t, v, q⟩ = E at *
  have HF := Lib.hid hfin
  clear hfin
  by_cases hq : q = 2
  · subst hq
    by_cases hv : v = 0
    · subst hv
      go_enter Try.func102, Try.ntmps102
      go_wp2_with (first | (go_at_call 165; refine (rmoment_any _ _).mono ?_; rintro e w' ⟨rfl, rfl⟩) | (go_at_call 132; refine (in_any _ _ _ _).mono ?_; rintro e w' ⟨rfl, rfl⟩))
      all_goals go_ret
      all_goals exact ⟨ret_int (by rw [HF.out]; simp_all), rfl⟩
    · have hv' : (v != 0) = true := by simpa using hv
      go_enter Try.func102, Try.ntmps102
      go_wp2_with (first | (go_at_call 165; refine (rmoment_any _ _).mono ?_; rintro e w' ⟨rfl, rfl⟩) | (go_at_call 132; refine (in_any _ _ _ _).mono ?_; rintro e w' ⟨rfl, rfl⟩))
      all_goals go_ret
      all_goals exact ⟨ret_int (by rw [HF.out]; simp_all), rfl⟩
  · have hq' : (q == 2) = false := by simpa using hq
    go_enter Try.func102, Try.ntmps102
    go_wp2_with (first | (go_at_call 165; refine (rmoment_any _ _).mono ?_; rintro e w' ⟨rfl, rfl⟩) | (go_at_call 132; refine (in_any _ _ _ _).mono ?_; rintro e w' ⟨rfl, rfl⟩))
    all_goals go_ret
    all_goals exact ⟨ret_int (by rw [HF.out]; simp_all), rfl⟩

end Go.Proofs.Ytblbfpokkpkcjaa

/- The contract of cmp.Or at errors. -/

namespace Go.Proofs.Ytblbfpokkpkcjaa
open Go.RowKit
set_option linter.unusedVariables false
set_option linter.unusedSimpArgs false

def orOf : List Int → Int
  | [] => 0
  | x :: l => if x ≠ 0 then x else orOf l

set_option maxRecDepth 100000 in
set_option maxHeartbeats 1000000 in
theorem or_any (w : World) (b : Nat) (xs : List Int) (hB : Blk w b 34 (xs.map (Value.int .i64)).toArray) (hx : xs.length ≤ 1000) :
    Calls Try.prog 20 #[.slice (some ⟨b, 0, none⟩) xs.length xs.length] w fun e w' => e = .returned (.int .i64 (orOf xs)) ∧ w = w' := by
  have HB := Lib.hid hB
  clear hB
  go_enter Try.func20, Try.ntmps20
  go_wp2_with fail
  go_loop [8] (fun i => ∃ j : Nat, j ≤ xs.length ∧ i = .int .i64 (j : Int) ∧ orOf xs = orOf (xs.drop j)) (fun i => xs.length - (intOf i).toNat)
  case atStart => exact ⟨0, by omega, rfl, by simp⟩
  case round =>
    obtain ⟨j, hj, rfl, hf⟩ := hrel
    have HF := Lib.hid hf
    clear hf
    by_cases hlt : j < xs.length
    · have hc : w.cell? ⟨b, j, none⟩ = some (.int .i64 xs[j]) := by rw [HB.out.cell]; simp [hlt]
      have hd : orOf (xs.drop j) = if xs[j] ≠ 0 then xs[j] else orOf (xs.drop (j + 1)) := by rw [List.drop_eq_getElem_cons hlt]; rfl
      generalize xs[j] = x at *
      have HD := Lib.hid hd
      clear hd
      by_cases hx0 : x = 0
      · have hx1 : (x != 0) = false := by simpa using hx0
        have HX := Lib.hid hx0
        clear hx0
        go_wp2_with fail
        go_round
        case rel => exact ⟨j + 1, by omega, by go_num, by rw [HF.out, HD.out, if_neg (by rw [HX.out]; simp)]⟩
        case measure => simp [intOf]; omega
      · have hx1 : (x != 0) = true := by simpa using hx0
        have HX := Lib.hid hx0
        clear hx0
        go_wp2_with fail
        go_ret
        exact ⟨ret_int (by rw [HF.out, HD.out, if_pos HX.out]), rfl⟩
    · obtain rfl : j = xs.length := by omega
      go_wp2_with fail
      go_ret
      exact ⟨ret_int (by rw [HF.out]; simp [orOf]), rfl⟩
theorem or2_any (w : World) (b : Nat) (x y : Int) (hB : Blk w b 34 #[.int .i64 x, .int .i64 y]) :
    Calls Try.prog 20 #[.slice (some ⟨b, 0, none⟩) 2 2] w fun e w' => e = .returned (.int .i64 (orOf [x, y])) ∧ w = w' :=
  or_any w b [x, y] hB (by simp)
end Go.Proofs.Ytblbfpokkpkcjaa
