/- slices.IndexFunc and slices.DeleteFunc at stretches, with a condition on each that is asked by a plain function. -/
import Derived.Test.YtamcbiajicnbfaaStro
import Derived.Laws.CopyRow
import Derived.Laws.Tables
namespace Go.Proofs.Ytamcbiajicnbfaa
open Go.RowKit
set_option linter.unusedVariables false
set_option linter.unusedSimpArgs false

def strAgg (x : Str) : Value := .agg #[.int .i64 x.a, .int .i64 x.b, .int .i64 x.s.t, .int .i64 x.s.v, .int .i64 x.s.q]
def atT (l : List Str) (i : Nat) : Str := l.getD i ⟨0, 0, ⟨0, 0, 0⟩⟩
theorem atT_eq (l : List Str) (i : Nat) (h : i < l.length) : l[i] = atT l i := by simp [atT, List.getD_eq_getElem?_getD, List.getElem?_eq_getElem h]
theorem RdStr.at_ {w : World} {v : Value} {l : List Str} (h : RdStr w v l) (hn : 0 < l.length) :
    ∃ b off c, v = .slice (some ⟨b, off, none⟩) l.length c ∧ l.length ≤ c ∧ c ≤ maxLen ∧ b < w.heap.size ∧ ∀ i, i < l.length →
      w.cell? ⟨b, off + i * 5, none⟩ = some (.int .i64 (atT l i).a) ∧ w.cell? ⟨b, off + i * 5 + 1, none⟩ = some (.int .i64 (atT l i).b) ∧ w.cell? ⟨b, off + i * 5 + 2, none⟩ = some (.int .i64 (atT l i).s.t) ∧ w.cell? ⟨b, off + i * 5 + 3, none⟩ = some (.int .i64 (atT l i).s.v) ∧ w.cell? ⟨b, off + i * 5 + 4, none⟩ = some (.int .i64 (atT l i).s.q) := by
  obtain ⟨b, off, c, hv, h2, h3, hlt, hc⟩ := RdStr.cells h hn
  exact ⟨b, off, c, hv, h2, h3, hlt, fun i hi => by rw [← atT_eq l i hi]; exact hc i hi⟩
theorem ownT_below {w w' : World} {base : Nat} {e : TypeId} {size n : Nat} {v : Value} {xs : List Value} (h : w.ownsRow base e size v n xs) (hb : Below w.heap.size w w') : w'.ownsRow base e size v n xs := own_keep h fun b _ _ hh => hb.block b (lt_of_heap hh)
theorem own_putT {w : World} {base g cap : Nat} {e : TypeId} {l : List Str} (h : w.ownsRow base e 5 (.slice (some ⟨g, 0, none⟩) l.length cap) l.length (strCells l)) (i : Nat) (hi : i < l.length) (y : Str) :
    (((((w.setCell ⟨g, i * 5, none⟩ (.int .i64 y.a)).setCell ⟨g, i * 5 + 1, none⟩ (.int .i64 y.b)).setCell ⟨g, i * 5 + 2, none⟩ (.int .i64 y.s.t)).setCell ⟨g, i * 5 + 3, none⟩ (.int .i64 y.s.v)).setCell ⟨g, i * 5 + 4, none⟩ (.int .i64 y.s.q)).ownsRow base e 5 (.slice (some ⟨g, 0, none⟩) l.length cap) l.length (strCells (l.set i y)) := by
  have h1 := (h.stored (i * 5) (.int .i64 y.a)).1
  have h2 := (h1.stored (i * 5 + 1) (.int .i64 y.b)).1
  have h3 := (h2.stored (i * 5 + 2) (.int .i64 y.s.t)).1
  have h4 := (h3.stored (i * 5 + 3) (.int .i64 y.s.v)).1
  have h5 := (h4.stored (i * 5 + 4) (.int .i64 y.s.q)).1
  rwa [strCells_set l i hi y] at h5


/-- The function value fn with what it captured asks p of a sample: it answers, and turns nothing that was there. -/
def AsksT (w : World) (fn : FuncId) (caps : Array Value) (p : Str → Bool) : Prop :=
  ∀ (x : Str) (w' : World), Below w.heap.size w w' → Calls Try.prog fn (#[(strAgg x)] ++ caps) w' fun e w'' => e = .returned (.bool (p x)) ∧ Below w'.heap.size w' w''

/-- The index of the first sample of which p holds, from i on. -/
def idxT (p : Str → Bool) (l : List Str) (i : Nat) : Int :=
  if h : i < l.length then (if p (atT l i) = true then (i : Int) else idxT p l (i + 1)) else -1
  termination_by l.length - i

theorem idxT_end (p : Str → Bool) (l : List Str) (i : Nat) (h : l.length ≤ i) : idxT p l i = -1 := by rw [idxT.eq_def, dif_neg (by omega)]
theorem idxT_step (p : Str → Bool) (l : List Str) (i : Nat) (h : i < l.length) : idxT p l i = if p (atT l i) = true then (i : Int) else idxT p l (i + 1) := by rw [idxT.eq_def, dif_pos h]

theorem idxT_spec (p : Str → Bool) (l : List Str) (i : Nat) : (idxT p l i = -1 ∧ ∀ k, i ≤ k → k < l.length → p (atT l k) = false) ∨ (∃ n : Nat, idxT p l i = (n : Int) ∧ i ≤ n ∧ n < l.length ∧ p (atT l n) = true ∧ ∀ k, i ≤ k → k < n → p (atT l k) = false) := by
  rcases Nat.lt_or_ge i l.length with h | h
  · rw [idxT_step p l i h]
    by_cases hp : p (atT l i) = true
    · rw [if_pos hp]
      exact .inr ⟨i, rfl, Nat.le_refl _, h, hp, fun k h1 h2 => by omega⟩
    · rw [if_neg hp]
      have hp' : p (atT l i) = false := by simpa using hp
      rcases idxT_spec p l (i + 1) with ⟨h1, h2⟩ | ⟨n, h1, h2, h3, h4, h5⟩
      · exact .inl ⟨h1, fun k hk1 hk2 => by
          rcases Nat.eq_or_lt_of_le hk1 with e | e
          · rw [← e]; exact hp'
          · exact h2 k e hk2⟩
      · exact .inr ⟨n, h1, by omega, h3, h4, fun k hk1 hk2 => by
          rcases Nat.eq_or_lt_of_le hk1 with e | e
          · rw [← e]; exact hp'
          · exact h5 k e hk2⟩
  · rw [idxT_end p l i h]
    exact .inl ⟨rfl, fun k h1 h2 => by omega⟩
  termination_by l.length - i

set_option maxRecDepth 100000 in
set_option maxHeartbeats 2000000 in
theorem indexT_any (v : Value) (l : List Str) (w : World) (fn : FuncId) (p : Str → Bool) (hR : RdStr w v l) (hlong : l.length ≤ 5000)
    (hcf : ∀ (args : Array Value) (w : World), (callFunc fn args).run Try.prog w = .ok (.enter fn args) w) (hp : AsksT w fn #[] p) :
    Calls Try.prog 204 #[v, .func (.func fn) #[] #[]] w fun e w' => e = .returned (.int .i64 (idxT p l 0)) ∧ Below w.heap.size w w' := by
  have HP := Lib.hid hp
  obtain ⟨hlen1, pa, ca, rfl, na1, na2, ca3⟩ := hR
  have HR := Lib.hid (show RdStr w (.slice pa l.length ca) l from ⟨hlen1, pa, ca, rfl, na1, na2, ca3⟩)
  clear hlen1 ca3 hp
  go_enter Try.func204, Try.ntmps204
  go_wp2_with fail
  go_loopw [8] (fun si wr => ∃ j : Nat, j ≤ l.length ∧ si = .int .i64 (j : Int) ∧ idxT p l j = idxT p l 0 ∧ Below w.heap.size w wr) (fun si _ => l.length - (intOf si).toNat)
  case atStart => exact ⟨0, by omega, rfl, rfl, Below.refl _ _⟩
  case round =>
    obtain ⟨j, hj, rfl, hidx, hbr⟩ := hrel
    have HIDX := Lib.hid hidx
    clear hidx
    by_cases hlt : j < l.length
    · have hRr : RdStr wr (.slice pa l.length ca) l := Rd.below HR.out hbr
      obtain ⟨b, off, c, hv, hc1, hc2, hblt, hcell⟩ := RdStr.at_ hRr (by omega)
      simp only [Value.slice.injEq, true_and] at hv
      obtain ⟨rfl, rfl⟩ := hv
      obtain ⟨c0, c1', c2, c3', c4'⟩ := hcell j hlt
      have hstep := idxT_step p l j hlt
      generalize atT l j = x at *
      have HSTEP := Lib.hid hstep
      clear hcell hRr hstep
      unfold maxLen at hc2
      go_wp2_with fail
      refine (HP.out x _ hbr).mono ?_
      rintro e w2 ⟨rfl, hb2⟩
      generalize p x = px at *
      cases px
      · go_wp2_with fail
        go_roundw
        case rel => exact ⟨j + 1, by omega, by go_num, by rw [← HIDX.out, HSTEP.out]; simp, hbr.trans (hb2.mono hbr.size)⟩
        case measure => simp [intOf]; omega
      · go_wp2_with fail
        go_ret
        exact ⟨ret_int (by rw [← HIDX.out, HSTEP.out]; simp), hbr.trans (hb2.mono hbr.size)⟩
    · obtain rfl : j = l.length := by omega
      have hf := idxT_end p l l.length (Nat.le_refl _)
      have HF := Lib.hid hf
      clear hf
      go_wp2_with fail
      go_ret
      exact ⟨ret_int (by rw [← HIDX.out, HF.out]), hbr⟩


theorem str_zero (w : World) : (zeroValue 192).run Try.prog w = .ok (.agg #[.int .i64 0, .int .i64 0, .int .i64 0, .int .i64 0, .int .i64 0]) w := by kernel_rfl

theorem zeroCells_str (n : Nat) : (Builtin.zeroCells (Value.cells (.agg #[.int .i64 0, .int .i64 0, .int .i64 0, .int .i64 0, .int .i64 0])) n).toList = List.replicate (n * 5) (.int .i64 0) := by
  apply List.ext_getElem
  · simp [Builtin.zeroCells, Value.cells]
  · intro i h1 h2
    have h3 : i % 5 = 0 ∨ i % 5 = 1 ∨ i % 5 = 2 ∨ i % 5 = 3 ∨ i % 5 = 4 := by omega
    simp [Builtin.zeroCells, Value.cells]
    rcases h3 with h | h | h | h | h <;> simp [h]

/-- clear of a slice of samples: only its own block turns, and of that only its own cells. -/
theorem run_clear_str (w : World) (ty : TypeId) (g i n c : Nat) (cur : Array Value) (hg : w.heap[g]? = some (.cells cur 192 (0, 0))) (hn : 0 < n) (hl : (i + n) * 5 ≤ cur.size) :
    ∃ w', (Builtin.clear_ #[189] ty #[.slice (some ⟨g, i * 5, none⟩) n c]).run Try.prog w = .ok (.tuple #[]) w' ∧ (∃ cur' : Array Value, w'.heap[g]? = some (.cells cur' 192 (0, 0)) ∧ cur'.size = cur.size ∧ ∀ j, j < i * 5 → cur'[j]? = cur[j]?) ∧ w.grownBy w' (some g) := by
  have hst := run_storeCells_at (P := Try.prog) g (i * 5) 192 (List.replicate (n * 5) (.int .i64 0)) 0 cur w hg (by simp; omega) (fun v hv => by rw [List.eq_of_mem_replicate hv]; rfl)
  obtain ⟨m, rfl⟩ : ∃ m, n = m + 1 := ⟨n - 1, by omega⟩
  obtain ⟨N, hN⟩ : ∃ N : Array Value, N = (cur.toList.take (i * 5 + 0) ++ List.replicate ((m + 1) * 5) (Value.int .i64 0) ++ cur.toList.drop (i * 5 + 0 + (List.replicate ((m + 1) * 5) (Value.int .i64 0)).length)).toArray := ⟨_, rfl⟩
  rw [← hN] at hst
  refine ⟨w.setRow g N, ?_, ⟨N, setRow_heap w g cur N _ _ hg, ?_, ?_⟩, ?_⟩
  · simp [Builtin.clear_, run_underlying Try.underlying189, str_zero, zeroCells_str, hst]
  · rw [hN]; simp; omega
  · intro j hj
    rw [hN]
    simp only [List.getElem?_toArray]
    rw [List.append_assoc, List.getElem?_append_left (by simp; omega), List.getElem?_take_of_lt (by omega)]
    simp
  · exact ⟨rfl, rfl, rfl, by simp, fun k hk hne => setRow_other w g k N (fun e => hne (by rw [e]))⟩

/-- clear of a slice of samples, as a step. -/
theorem wpList_clear_str {w : World} {ops : Array Oper} {rest : List Oper} {o : Oper} {a : Act} {Q : Exit → Act → World → Prop} (hgd : o.guard = none) (x : Operand)
    (ho : o.op = .call { callee := .builtin .clear, args := #[x], argTypes := #[189] }) (g i off n c : Nat) (cur : Array Value) (hx : a.eval x = .slice (some ⟨g, off, none⟩) n c) (hoff : off = i * 5)
    (hg : w.heap[g]? = some (.cells cur 192 (0, 0))) (hn : 0 < n) (hl : (i + n) * 5 ≤ cur.size)
    (h : ∀ w', (∃ cur' : Array Value, w'.heap[g]? = some (.cells cur' 192 (0, 0)) ∧ cur'.size = cur.size ∧ ∀ j, j < i * 5 → cur'[j]? = cur[j]?) → w.grownBy w' (some g) → wpList Try.prog ops Q rest (a.put o.dst (.tuple #[])) w') : wpList Try.prog ops Q (o :: rest) a w := by
  subst hoff
  refine wpList_plain hgd fun K hK => ?_
  obtain ⟨w', hr, h1, h2⟩ := run_clear_str w o.type g i n c cur hg hn hl
  unfold Oper.wp execOp
  simp only [ho, resolve, invoke, builtin, Sem.run_bind, Sem.run_pure, Result.andThen_ok, List.map_toArray, List.map_cons, List.map_nil, hx, hr]
  exact hK _ _ (h w' h1 h2)

/-- As AsksT, but blocks of the call's own may have turned. -/
def AsksBT (base : Nat) (w : World) (fn : FuncId) (caps : Array Value) (p : Str → Bool) : Prop :=
  ∀ (x : Str) (w' : World), Below base w w' → Calls Try.prog fn (#[(strAgg x)] ++ caps) w' fun e w'' => e = .returned (.bool (p x)) ∧ Below w'.heap.size w' w''

theorem filterT_all {p : Str → Bool} {l : List Str} (h : ∀ k, 0 ≤ k → k < l.length → p (atT l k) = false) : l.filter (fun x => !p x) = l := by
  rw [List.filter_eq_self]
  intro x hx
  obtain ⟨k, hk, rfl⟩ := List.getElem_of_mem hx
  rw [atT_eq l k hk, h k (Nat.zero_le _) hk]; rfl

/-- What the row holds in the loop: the kept ones of the first j, then anything, then the rest. -/
def HalfT (p : Str → Bool) (l row : List Str) (i j : Nat) : Prop :=
  row.length = l.length ∧ i < j ∧ j ≤ l.length ∧ row.take i = (l.take j).filter (fun x => !p x) ∧ row.drop j = l.drop j

theorem halfT_start (p : Str → Bool) (l : List Str) (n : Nat) (h3 : n < l.length) (h4 : p (atT l n) = true) (h5 : ∀ k, 0 ≤ k → k < n → p (atT l k) = false) : HalfT p l l n (n + 1) := by
  refine ⟨rfl, by omega, by omega, ?_, rfl⟩
  rw [List.take_succ_eq_append_getElem h3, List.filter_append, atT_eq l n h3]
  have e : (l.take n).filter (fun x => !p x) = l.take n := by
    refine filterT_all fun k h0 hk => ?_
    have hk' : k < n := by simp at hk; omega
    rw [← atT_eq _ _ hk, List.getElem_take, atT_eq l k (by omega)]
    exact h5 k h0 hk'
  rw [e]
  simp [h4]
theorem halfT_at {p : Str → Bool} {l row : List Str} {i j : Nat} (h : HalfT p l row i j) (hj : j < l.length) : row[j]? = some (atT l j) := by
  have e := congrArg (fun x => x[0]?) h.2.2.2.2
  simp only [List.getElem?_drop, Nat.add_zero] at e
  rw [e, List.getElem?_eq_getElem hj, atT_eq l j hj]
theorem halfT_skip {p : Str → Bool} {l row : List Str} {i j : Nat} (h : HalfT p l row i j) (hj : j < l.length) (hp : p (atT l j) = true) : HalfT p l row i (j + 1) := by
  obtain ⟨h1, h2, h3, h4, h5⟩ := h
  refine ⟨h1, by omega, by omega, ?_, ?_⟩
  · rw [List.take_succ_eq_append_getElem hj, List.filter_append, atT_eq l j hj, ← h4]
    simp [hp]
  · have := congrArg (List.drop 1) h5
    simpa [List.drop_drop, Nat.add_comm] using this
theorem halfT_put {p : Str → Bool} {l row : List Str} {i j : Nat} (h : HalfT p l row i j) (hj : j < l.length) (hp : p (atT l j) = false) : HalfT p l (row.set i (atT l j)) (i + 1) (j + 1) := by
  obtain ⟨h1, h2, h3, h4, h5⟩ := h
  refine ⟨by simpa using h1, by omega, by omega, ?_, ?_⟩
  · rw [List.take_succ_eq_append_getElem hj, List.filter_append, atT_eq l j hj, ← h4, List.take_succ_eq_append_getElem (by simp; omega)]
    simp [hp, List.take_set_of_le]
  · rw [List.drop_set_of_lt (by omega)]
    have := congrArg (List.drop 1) h5
    simpa [List.drop_drop, Nat.add_comm] using this
theorem halfT_end {p : Str → Bool} {l row : List Str} {i : Nat} (h : HalfT p l row i l.length) : row.take i = l.filter (fun x => !p x) := by
  have := h.2.2.2.1
  rwa [List.take_length] at this



theorem ownT_rd {w : World} {g cap i : Nat} {row : List Str} (h : ∃ cur : Array Value, w.heap[g]? = some (.cells cur 192 (0, 0)) ∧ ∀ j, j < i * 5 → cur[j]? = (strCells row)[j]?)
    (hi : i ≤ row.length) (hc : i ≤ cap) (hm : cap ≤ maxLen) (hpos : 0 < cap) : RdStr w (.slice (some ⟨g, 0, none⟩) i cap) (row.take i) := by
  obtain ⟨cur, h1, h2⟩ := h
  have hl : (row.take i).length = i := by simp; omega
  unfold RdStr
  rw [hl]
  refine ⟨by rw [strCells_length, hl], some ⟨g, 0, none⟩, cap, rfl, hc, hm, fun _ => ⟨g, 0, cur, (0, 0), rfl, h1, fun j hj => ?_⟩⟩
  rw [Nat.zero_add, h2 j hj]
  have e : strCells row = strCells (row.take i) ++ strCells (row.drop i) := by rw [← strCells_append, List.take_append_drop]
  rw [e, List.getElem?_append_left (by rw [strCells_length, hl]; exact hj)]

set_option maxRecDepth 100000 in
set_option maxHeartbeats 4000000 in
theorem deleteT_any (v : Value) (l : List Str) (w : World) (base : Nat) (fn : FuncId) (p : Str → Bool) (hown : w.ownsRow base 192 5 v l.length (strCells l)) (hbase : base ≤ w.heap.size) (hlong : l.length ≤ 5000)
    (hcf : ∀ (args : Array Value) (w : World), (callFunc fn args).run Try.prog w = .ok (.enter fn args) w) (hp : AsksBT base w fn #[] p) :
    Calls Try.prog 184 #[v, .func (.func fn) #[] #[]] w fun e w' => ∃ v', e = .returned v' ∧ w'.ownsRow base 192 5 v' (l.filter fun x => !p x).length (strCells (l.filter fun x => !p x)) ∧ Below base w w' := by
  have hR : RdStr w v l := Rd.of_own hown
  have hidx := indexT_any v l w fn p hR hlong hcf (fun x w' h => hp x w' (h.mono hbase))
  have HP := Lib.hid hp
  have HI := Lib.hid hidx
  have HR := Lib.hid hR
  clear hp hidx hR
  rcases idxT_spec p l 0 with ⟨e, hall⟩ | ⟨n, e, h0, h3, h4, h5⟩
  · rw [e] at HI
    have hfl := filterT_all hall
    have HF := Lib.hid hfl
    clear e hall hfl
    go_enter Try.func184, Try.ntmps184
    go_wp2_with fail
    refine HI.out.mono ?_
    rintro e w1 ⟨rfl, hb1⟩
    go_wp2_with fail
    go_ret
    exact ⟨_, rfl, by rw [HF.out]; exact ownT_below hown hb1, hb1.mono hbase⟩
  · rw [e] at HI
    have hst := halfT_start p l n h3 h4 h5
    have HST := Lib.hid hst
    obtain ⟨g, cap, rfl, hg, hc1, hc2⟩ := own_form hown (by omega)
    have hc2' := hc2
    unfold maxLen at hc2
    clear e h0 h4 h5 hst
    have hne : ((n : Int) == -1) = false := by rw [beq_eq_false_iff_ne]; omega
    go_enter Try.func184, Try.ntmps184
    go_wp2_with fail
    refine HI.out.mono ?_
    rintro e w1 ⟨rfl, hb1⟩
    have hown1 := ownT_below hown hb1
    have hb1' := hb1.mono hbase
    clear hb1
    go_wp2_with fail
    go_loopw [5, 6] (fun si sj wr => ∃ (i j : Nat) (row : List Str), si = .int .i64 (i : Int) ∧ sj = .int .i64 (j : Int) ∧ i < j ∧ j ≤ l.length ∧ HalfT p l row i j ∧ wr.ownsRow base 192 5 (.slice (some ⟨g, 0, none⟩) l.length cap) l.length (strCells row) ∧ Below base w wr) (fun _ sj _ => l.length - (intOf sj).toNat)
    case atStart => exact ⟨n, n + 1, l, rfl, by go_num, by omega, by omega, HST.out, hown1, hb1'⟩
    case round =>
      clear hown hown1 hb1'
      obtain ⟨i, j, row, rfl, rfl, hij, hj, hH, hown, hbr⟩ := hrel
      have HH := Lib.hid hH
      clear hH
      by_cases hlt : j < l.length
      · have hrl : row.length = l.length := HH.out.1
        have hat := halfT_at HH.out hlt
        obtain ⟨c0, c1', c2, c3', c4'⟩ := own_str hown hrl j hlt
        have hge : row[j]'(by omega) = atT l j := by
          have e := hat; rw [List.getElem?_eq_getElem (by omega)] at e; exact Option.some.inj e
        rw [hge] at c0 c1' c2 c3' c4'
        have f0 := hown.frozenAt (i * 5)
        have f1 := hown.frozenAt (i * 5 + 1)
        have f2 := hown.frozenAt (i * 5 + 2)
        have f3 := hown.frozenAt (i * 5 + 3)
        have f4 := hown.frozenAt (i * 5 + 4)
        have hskip := fun hpp : p (atT l j) = true => halfT_skip HH.out hlt hpp
        have hput := fun hpp : p (atT l j) = false => halfT_put HH.out hlt hpp
        have hgr : g < wr.heap.size := (hown.lt g rfl).2
        generalize atT l j = x at *
        have HRL := Lib.hid hrl
        have HSK := Lib.hid hskip
        have HPU := Lib.hid hput
        clear hat hge hskip hput hrl
        go_wp2_with fail
        refine (HP.out x _ (hbr.alloc (by have := hbr.size; omega) _)).mono ?_
        rintro e w2 ⟨rfl, hb2⟩
        have hown2 := ownT_below (hown.alloc (.cells #[.int .i64 x.a, .int .i64 x.b, .int .i64 x.s.t, .int .i64 x.s.v, .int .i64 x.s.q] 192)) hb2
        have hbr2 : Below base w w2 := (hbr.alloc (by have := hbr.size; omega) _).trans (hb2.mono (by have := hbr.size; simp; omega))
        have hB : Blk w2 wr.heap.size 192 #[.int .i64 x.a, .int .i64 x.b, .int .i64 x.s.t, .int .i64 x.s.v, .int .i64 x.s.q] := (Blk.new wr _ _).below hb2 (by simp)
        have d0 := hB.cell 0
        have d1 := hB.cell 1
        have d2 := hB.cell 2
        have d3 := hB.cell 3
        have d4 := hB.cell 4
        obtain ⟨px, hpx⟩ : ∃ b, b = p x := ⟨_, rfl⟩
        have HPX := Lib.hid hpx
        rw [← hpx]
        clear hb2 hown hB c0 c1' c2 c3' c4' hbr hpx f0 f1 f2 f3 f4
        cases px
        · have g0 := hown2.frozenAt (i * 5)
          have g1 := hown2.frozenAt (i * 5 + 1)
          have g2 := hown2.frozenAt (i * 5 + 2)
          have g3 := hown2.frozenAt (i * 5 + 3)
          have g4 := hown2.frozenAt (i * 5 + 4)
          obtain ⟨k0, k1, k2, k3, k4⟩ := own_str hown2 HRL.out i (by omega)
          generalize row[i]'(by have := HRL.out; omega) = y at *
          go_wp2_with fail
          go_roundw
          case rel =>
            refine ⟨i + 1, j + 1, row.set i x, by go_num, by go_num, by omega, by omega, HPU.out HPX.out.symm, ?_, by (repeat (refine Below.setCell ?_ hg _)); exact hbr2⟩
            have hl := HRL.out
            have := own_putT (w := w2) (l := row) (by rw [hl]; exact hown2) i (by rw [hl]; omega) x
            rw [hl] at this
            exact this
          case measure => simp [intOf]; omega
        · go_wp2_with fail
          go_roundw
          case rel => exact ⟨i, j + 1, row, rfl, by go_num, by omega, by omega, HSK.out HPX.out.symm, hown2, hbr2⟩
          case measure => simp [intOf]; omega
      · obtain rfl : j = l.length := by omega
        have hrl : row.length = l.length := HH.out.1
        have HRL := Lib.hid hrl
        have hend := halfT_end HH.out
        have HE := Lib.hid hend
        have hcells : ∃ cur : Array Value, wr.heap[g]? = some (.cells cur 192 (0, 0)) ∧ cur.size = cap * 5 ∧ cur.toList.take (l.length * 5) = strCells row := by
          obtain ⟨_, h | ⟨g', cap', cur, hv, hb, hh, hn, hm, hs, hx⟩⟩ := hown
          · exact absurd h.2 (by omega)
          · simp only [Value.slice.injEq, Option.some.injEq, Addr.mk.injEq, and_true, true_and] at hv
            obtain ⟨rfl, rfl⟩ := hv
            exact ⟨cur, hh, hs, hx⟩
        obtain ⟨cur, hh, hs, hx⟩ := hcells
        obtain ⟨w2, hr, ⟨cur', hh', hsz', hsame⟩, hgrow⟩ := run_clear_str wr 0 g i (l.length - i) (cap - i) cur hh (by omega) (by omega)
        have hb2 := hbr.trans (below_grown hown (by have := hbr.size; omega) hgrow)
        have hfl : (l.filter fun x => !p x).length = i := by rw [← hend]; simp; omega
        have hfin : w2.ownsRow base 192 5 (.slice (some ⟨g, 0, none⟩) i cap) (l.filter fun x => !p x).length (strCells (l.filter fun x => !p x)) := by
          rw [hfl, ← hend]
          refine ⟨by rw [strCells_length]; simp; omega, .inr ⟨g, cap, cur', rfl, hg, hh', by omega, hc2', by rw [hsz', hs], ?_⟩⟩
          apply List.ext_getElem?
          intro j
          by_cases hj : j < i * 5
          · rw [List.getElem?_take_of_lt hj, Array.getElem?_toList, hsame j hj]
            have hx2 : strCells (row.take i) = (strCells row).take (i * 5) := by
              have e := congrArg (fun z => (strCells z).take (i * 5)) (List.take_append_drop i row)
              simp only [strCells_append] at e
              rw [← e, List.take_append_of_le_length (by rw [strCells_length]; simp; omega), List.take_of_length_le (l := strCells (row.take i)) (by rw [strCells_length]; simp; omega)]
            rw [hx2, ← hx, List.getElem?_take_of_lt hj, List.getElem?_take_of_lt (by omega), Array.getElem?_toList]
          · rw [List.getElem?_eq_none (by simp; omega), List.getElem?_eq_none (by rw [strCells_length]; simp; omega)]
        have HF := Lib.hid hfin
        clear hrl hend hh hs hx hh' hsame hgrow hfin hown hfl hsz'
        go_wp2_with fail
        go_ret
        exact ⟨_, rfl, HF.out, hb2⟩
end Go.Proofs.Ytamcbiajicnbfaa
