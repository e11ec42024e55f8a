/- slices.IndexFunc and slices.DeleteFunc at windows, with a condition on each that is asked by a closure over one box. -/
import Derived.Test.YtdacdiigeainmaaWdv
import Derived.Test.YtdacdiigeainmaaDist
import Derived.Laws.CopyRow
import Derived.Laws.Tables
namespace Go.Proofs.Ytdacdiigeainmaa
open Go.RowKit
set_option linter.unusedVariables false
set_option linter.unusedSimpArgs false

def wdwAgg (x : Int × Int) : Value := .agg #[.int .i64 x.1, .int .i64 x.2]
def atW (l : List (Int × Int)) (i : Nat) : Int × Int := l.getD i (0, 0)
theorem atW_eq (l : List (Int × Int)) (i : Nat) (h : i < l.length) : l[i] = atW l i := by simp [atW, List.getD_eq_getElem?_getD, List.getElem?_eq_getElem h]
theorem RdWdw.at_ {w : World} {v : Value} {l : List (Int × Int)} (h : RdWdw w v l) (hn : 0 < l.length) :
    ∃ b off c, v = .slice (some ⟨b, off, none⟩) l.length c ∧ l.length ≤ c ∧ c ≤ maxLen ∧ b < w.heap.size ∧ ∀ i, i < l.length →
      w.cell? ⟨b, off + i * 2, none⟩ = some (.int .i64 (atW l i).1) ∧ w.cell? ⟨b, off + i * 2 + 1, none⟩ = some (.int .i64 (atW l i).2) := by
  obtain ⟨b, off, c, hv, h2, h3, hlt, hc⟩ := RdWdw.cells h hn
  exact ⟨b, off, c, hv, h2, h3, hlt, fun i hi => by rw [← atW_eq l i hi]; exact hc i hi⟩
theorem ownW_below {w w' : World} {base : Nat} {e : TypeId} {size n : Nat} {v : Value} {xs : List Value} (h : w.ownsRow base e size v n xs) (hb : Below w.heap.size w w') : w'.ownsRow base e size v n xs := own_keep h fun b _ _ hh => hb.block b (lt_of_heap hh)
theorem own_putW {w : World} {base g cap : Nat} {e : TypeId} {l : List (Int × Int)} (h : w.ownsRow base e 2 (.slice (some ⟨g, 0, none⟩) l.length cap) l.length (wdwCells l)) (i : Nat) (hi : i < l.length) (y : Int × Int) :
    ((w.setCell ⟨g, i * 2, none⟩ (.int .i64 y.1)).setCell ⟨g, i * 2 + 1, none⟩ (.int .i64 y.2)).ownsRow base e 2 (.slice (some ⟨g, 0, none⟩) l.length cap) l.length (wdwCells (l.set i y)) := by
  have h1 := (h.stored (i * 2) (.int .i64 y.1)).1
  have h2 := (h1.stored (i * 2 + 1) (.int .i64 y.2)).1
  rwa [wdwCells_set l i hi y] at h2


/-- The function value fn with what it captured asks p of a sample: it answers, and turns nothing that was there. -/
def AsksW (w : World) (fn : FuncId) (caps : Array Value) (p : Int × Int → Bool) : Prop :=
  ∀ (x : Int × Int) (w' : World), Below w.heap.size w w' → Calls Try.prog fn (#[(wdwAgg x)] ++ caps) w' fun e w'' => e = .returned (.bool (p x)) ∧ Below w'.heap.size w' w''

/-- The index of the first sample of which p holds, from i on. -/
def idxW (p : Int × Int → Bool) (l : List (Int × Int)) (i : Nat) : Int :=
  if h : i < l.length then (if p (atW l i) = true then (i : Int) else idxW p l (i + 1)) else -1
  termination_by l.length - i

theorem idxW_end (p : Int × Int → Bool) (l : List (Int × Int)) (i : Nat) (h : l.length ≤ i) : idxW p l i = -1 := by rw [idxW.eq_def, dif_neg (by omega)]
theorem idxW_step (p : Int × Int → Bool) (l : List (Int × Int)) (i : Nat) (h : i < l.length) : idxW p l i = if p (atW l i) = true then (i : Int) else idxW p l (i + 1) := by rw [idxW.eq_def, dif_pos h]

theorem idxW_spec (p : Int × Int → Bool) (l : List (Int × Int)) (i : Nat) : (idxW p l i = -1 ∧ ∀ k, i ≤ k → k < l.length → p (atW l k) = false) ∨ (∃ n : Nat, idxW p l i = (n : Int) ∧ i ≤ n ∧ n < l.length ∧ p (atW l n) = true ∧ ∀ k, i ≤ k → k < n → p (atW l k) = false) := by
  rcases Nat.lt_or_ge i l.length with h | h
  · rw [idxW_step p l i h]
    by_cases hp : p (atW l i) = true
    · rw [if_pos hp]
      exact .inr ⟨i, rfl, Nat.le_refl _, h, hp, fun k h1 h2 => by omega⟩
    · rw [if_neg hp]
      have hp' : p (atW l i) = false := by simpa using hp
      rcases idxW_spec p l (i + 1) with ⟨h1, h2⟩ | ⟨n, h1, h2, h3, h4, h5⟩
      · exact .inl ⟨h1, fun k hk1 hk2 => by
          rcases Nat.eq_or_lt_of_le hk1 with e | e
          · rw [← e]; exact hp'
          · exact h2 k e hk2⟩
      · exact .inr ⟨n, h1, by omega, h3, h4, fun k hk1 hk2 => by
          rcases Nat.eq_or_lt_of_le hk1 with e | e
          · rw [← e]; exact hp'
          · exact h5 k e hk2⟩
  · rw [idxW_end p l i h]
    exact .inl ⟨rfl, fun k h1 h2 => by omega⟩
  termination_by l.length - i

set_option maxRecDepth 100000 in
set_option maxHeartbeats 2000000 in
theorem indexW_any (v : Value) (l : List (Int × Int)) (w : World) (fn : FuncId) (cap1 : Value) (p : Int × Int → Bool) (hR : RdWdw w v l) (hlong : l.length ≤ 5000)
    (hcf : ∀ (args : Array Value) (w : World), (callFunc fn args).run Try.prog w = .ok (.enter fn args) w) (hp : AsksW w fn #[cap1] p) :
    Calls Try.prog 42 #[v, .func (.func fn) #[] #[cap1]] w fun e w' => e = .returned (.int .i64 (idxW p l 0)) ∧ Below w.heap.size w w' := by
  have HP := Lib.hid hp
  obtain ⟨hlen1, pa, ca, rfl, na1, na2, ca3⟩ := hR
  have HR := Lib.hid (show RdWdw w (.slice pa l.length ca) l from ⟨hlen1, pa, ca, rfl, na1, na2, ca3⟩)
  clear hlen1 ca3 hp
  go_enter Try.func42, Try.ntmps42
  go_wp2_with fail
  go_loopw [8] (fun si wr => ∃ j : Nat, j ≤ l.length ∧ si = .int .i64 (j : Int) ∧ idxW p l j = idxW p l 0 ∧ Below w.heap.size w wr) (fun si _ => l.length - (intOf si).toNat)
  case atStart => exact ⟨0, by omega, rfl, rfl, Below.refl _ _⟩
  case round =>
    obtain ⟨j, hj, rfl, hidx, hbr⟩ := hrel
    have HIDX := Lib.hid hidx
    clear hidx
    by_cases hlt : j < l.length
    · have hRr : RdWdw wr (.slice pa l.length ca) l := Rd.below HR.out hbr
      obtain ⟨b, off, c, hv, hc1, hc2, hblt, hcell⟩ := RdWdw.at_ hRr (by omega)
      simp only [Value.slice.injEq, true_and] at hv
      obtain ⟨rfl, rfl⟩ := hv
      obtain ⟨c0, c1'⟩ := hcell j hlt
      have hstep := idxW_step p l j hlt
      generalize atW l j = x at *
      have HSTEP := Lib.hid hstep
      clear hcell hRr hstep
      unfold maxLen at hc2
      go_wp2_with fail
      refine (HP.out x _ hbr).mono ?_
      rintro e w2 ⟨rfl, hb2⟩
      generalize p x = px at *
      cases px
      · go_wp2_with fail
        go_roundw
        case rel => exact ⟨j + 1, by omega, by go_num, by rw [← HIDX.out, HSTEP.out]; simp, hbr.trans (hb2.mono hbr.size)⟩
        case measure => simp [intOf]; omega
      · go_wp2_with fail
        go_ret
        exact ⟨ret_int (by rw [← HIDX.out, HSTEP.out]; simp), hbr.trans (hb2.mono hbr.size)⟩
    · obtain rfl : j = l.length := by omega
      have hf := idxW_end p l l.length (Nat.le_refl _)
      have HF := Lib.hid hf
      clear hf
      go_wp2_with fail
      go_ret
      exact ⟨ret_int (by rw [← HIDX.out, HF.out]), hbr⟩


theorem wdw_zero (w : World) : (zeroValue 49).run Try.prog w = .ok (.agg #[.int .i64 0, .int .i64 0]) w := by kernel_rfl

theorem zeroCells_wdw (n : Nat) : (Builtin.zeroCells (Value.cells (.agg #[.int .i64 0, .int .i64 0])) n).toList = List.replicate (n * 2) (.int .i64 0) := by
  apply List.ext_getElem
  · simp [Builtin.zeroCells, Value.cells]
  · intro i h1 h2
    have h3 : i % 2 = 0 ∨ i % 2 = 1 := by omega
    simp [Builtin.zeroCells, Value.cells]
    rcases h3 with h | h <;> simp [h]

/-- clear of a slice of samples: only its own block turns, and of that only its own cells. -/
theorem run_clear_wdw (w : World) (ty : TypeId) (g i n c : Nat) (cur : Array Value) (hg : w.heap[g]? = some (.cells cur 49 (0, 0))) (hn : 0 < n) (hl : (i + n) * 2 ≤ cur.size) :
    ∃ w', (Builtin.clear_ #[32] ty #[.slice (some ⟨g, i * 2, none⟩) n c]).run Try.prog w = .ok (.tuple #[]) w' ∧ (∃ cur' : Array Value, w'.heap[g]? = some (.cells cur' 49 (0, 0)) ∧ cur'.size = cur.size ∧ ∀ j, j < i * 2 → cur'[j]? = cur[j]?) ∧ w.grownBy w' (some g) := by
  have hst := run_storeCells_at (P := Try.prog) g (i * 2) 49 (List.replicate (n * 2) (.int .i64 0)) 0 cur w hg (by simp; omega) (fun v hv => by rw [List.eq_of_mem_replicate hv]; rfl)
  obtain ⟨m, rfl⟩ : ∃ m, n = m + 1 := ⟨n - 1, by omega⟩
  obtain ⟨N, hN⟩ : ∃ N : Array Value, N = (cur.toList.take (i * 2 + 0) ++ List.replicate ((m + 1) * 2) (Value.int .i64 0) ++ cur.toList.drop (i * 2 + 0 + (List.replicate ((m + 1) * 2) (Value.int .i64 0)).length)).toArray := ⟨_, rfl⟩
  rw [← hN] at hst
  refine ⟨w.setRow g N, ?_, ⟨N, setRow_heap w g cur N _ _ hg, ?_, ?_⟩, ?_⟩
  · simp [Builtin.clear_, run_underlying Try.underlying32, wdw_zero, zeroCells_wdw, hst]
  · rw [hN]; simp; omega
  · intro j hj
    rw [hN]
    simp only [List.getElem?_toArray]
    rw [List.append_assoc, List.getElem?_append_left (by simp; omega), List.getElem?_take_of_lt (by omega)]
    simp
  · exact ⟨rfl, rfl, rfl, by simp, fun k hk hne => setRow_other w g k N (fun e => hne (by rw [e]))⟩

/-- clear of a slice of samples, as a step. -/
theorem wpList_clear_wdw {w : World} {ops : Array Oper} {rest : List Oper} {o : Oper} {a : Act} {Q : Exit → Act → World → Prop} (hgd : o.guard = none) (x : Operand)
    (ho : o.op = .call { callee := .builtin .clear, args := #[x], argTypes := #[32] }) (g i off n c : Nat) (cur : Array Value) (hx : a.eval x = .slice (some ⟨g, off, none⟩) n c) (hoff : off = i * 2)
    (hg : w.heap[g]? = some (.cells cur 49 (0, 0))) (hn : 0 < n) (hl : (i + n) * 2 ≤ cur.size)
    (h : ∀ w', (∃ cur' : Array Value, w'.heap[g]? = some (.cells cur' 49 (0, 0)) ∧ cur'.size = cur.size ∧ ∀ j, j < i * 2 → cur'[j]? = cur[j]?) → w.grownBy w' (some g) → wpList Try.prog ops Q rest (a.put o.dst (.tuple #[])) w') : wpList Try.prog ops Q (o :: rest) a w := by
  subst hoff
  refine wpList_plain hgd fun K hK => ?_
  obtain ⟨w', hr, h1, h2⟩ := run_clear_wdw w o.type g i n c cur hg hn hl
  unfold Oper.wp execOp
  simp only [ho, resolve, invoke, builtin, Sem.run_bind, Sem.run_pure, Result.andThen_ok, List.map_toArray, List.map_cons, List.map_nil, hx, hr]
  exact hK _ _ (h w' h1 h2)

/-- As AsksW, but blocks of the call's own may have turned. -/
def AsksBW (base : Nat) (w : World) (fn : FuncId) (caps : Array Value) (p : Int × Int → Bool) : Prop :=
  ∀ (x : Int × Int) (w' : World), Below base w w' → Calls Try.prog fn (#[(wdwAgg x)] ++ caps) w' fun e w'' => e = .returned (.bool (p x)) ∧ Below w'.heap.size w' w''

theorem filterW_all {p : Int × Int → Bool} {l : List (Int × Int)} (h : ∀ k, 0 ≤ k → k < l.length → p (atW l k) = false) : l.filter (fun x => !p x) = l := by
  rw [List.filter_eq_self]
  intro x hx
  obtain ⟨k, hk, rfl⟩ := List.getElem_of_mem hx
  rw [atW_eq l k hk, h k (Nat.zero_le _) hk]; rfl

/-- What the row holds in the loop: the kept ones of the first j, then anything, then the rest. -/
def HalfW (p : Int × Int → Bool) (l row : List (Int × Int)) (i j : Nat) : Prop :=
  row.length = l.length ∧ i < j ∧ j ≤ l.length ∧ row.take i = (l.take j).filter (fun x => !p x) ∧ row.drop j = l.drop j

theorem halfW_start (p : Int × Int → Bool) (l : List (Int × Int)) (n : Nat) (h3 : n < l.length) (h4 : p (atW l n) = true) (h5 : ∀ k, 0 ≤ k → k < n → p (atW l k) = false) : HalfW p l l n (n + 1) := by
  refine ⟨rfl, by omega, by omega, ?_, rfl⟩
  rw [List.take_succ_eq_append_getElem h3, List.filter_append, atW_eq l n h3]
  have e : (l.take n).filter (fun x => !p x) = l.take n := by
    refine filterW_all fun k h0 hk => ?_
    have hk' : k < n := by simp at hk; omega
    rw [← atW_eq _ _ hk, List.getElem_take, atW_eq l k (by omega)]
    exact h5 k h0 hk'
  rw [e]
  simp [h4]
theorem halfW_at {p : Int × Int → Bool} {l row : List (Int × Int)} {i j : Nat} (h : HalfW p l row i j) (hj : j < l.length) : row[j]? = some (atW l j) := by
  have e := congrArg (fun x => x[0]?) h.2.2.2.2
  simp only [List.getElem?_drop, Nat.add_zero] at e
  rw [e, List.getElem?_eq_getElem hj, atW_eq l j hj]
theorem halfW_skip {p : Int × Int → Bool} {l row : List (Int × Int)} {i j : Nat} (h : HalfW p l row i j) (hj : j < l.length) (hp : p (atW l j) = true) : HalfW p l row i (j + 1) := by
  obtain ⟨h1, h2, h3, h4, h5⟩ := h
  refine ⟨h1, by omega, by omega, ?_, ?_⟩
  · rw [List.take_succ_eq_append_getElem hj, List.filter_append, atW_eq l j hj, ← h4]
    simp [hp]
  · have := congrArg (List.drop 1) h5
    simpa [List.drop_drop, Nat.add_comm] using this
theorem halfW_put {p : Int × Int → Bool} {l row : List (Int × Int)} {i j : Nat} (h : HalfW p l row i j) (hj : j < l.length) (hp : p (atW l j) = false) : HalfW p l (row.set i (atW l j)) (i + 1) (j + 1) := by
  obtain ⟨h1, h2, h3, h4, h5⟩ := h
  refine ⟨by simpa using h1, by omega, by omega, ?_, ?_⟩
  · rw [List.take_succ_eq_append_getElem hj, List.filter_append, atW_eq l j hj, ← h4, List.take_succ_eq_append_getElem (by simp; omega)]
    simp [hp, List.take_set_of_le]
  · rw [List.drop_set_of_lt (by omega)]
    have := congrArg (List.drop 1) h5
    simpa [List.drop_drop, Nat.add_comm] using this
theorem halfW_end {p : Int × Int → Bool} {l row : List (Int × Int)} {i : Nat} (h : HalfW p l row i l.length) : row.take i = l.filter (fun x => !p x) := by
  have := h.2.2.2.1
  rwa [List.take_length] at this



theorem ownW_rd {w : World} {g cap i : Nat} {row : List (Int × Int)} (h : ∃ cur : Array Value, w.heap[g]? = some (.cells cur 49 (0, 0)) ∧ ∀ j, j < i * 2 → cur[j]? = (wdwCells row)[j]?)
    (hi : i ≤ row.length) (hc : i ≤ cap) (hm : cap ≤ maxLen) (hpos : 0 < cap) : RdWdw w (.slice (some ⟨g, 0, none⟩) i cap) (row.take i) := by
  obtain ⟨cur, h1, h2⟩ := h
  have hl : (row.take i).length = i := by simp; omega
  unfold RdWdw
  rw [hl]
  refine ⟨by rw [wdwCells_length, hl], some ⟨g, 0, none⟩, cap, rfl, hc, hm, fun _ => ⟨g, 0, cur, (0, 0), rfl, h1, fun j hj => ?_⟩⟩
  rw [Nat.zero_add, h2 j hj]
  have e : wdwCells row = wdwCells (row.take i) ++ wdwCells (row.drop i) := by rw [← wdwCells_append, List.take_append_drop]
  rw [e, List.getElem?_append_left (by rw [wdwCells_length, hl]; exact hj)]

set_option maxRecDepth 100000 in
set_option maxHeartbeats 4000000 in
theorem deleteW_any (v : Value) (l : List (Int × Int)) (w : World) (base : Nat) (fn : FuncId) (cap1 : Value) (p : Int × Int → Bool) (hown : w.ownsRow base 49 2 v l.length (wdwCells l)) (hbase : base ≤ w.heap.size) (hlong : l.length ≤ 5000)
    (hcf : ∀ (args : Array Value) (w : World), (callFunc fn args).run Try.prog w = .ok (.enter fn args) w) (hp : AsksBW base w fn #[cap1] p) :
    Calls Try.prog 33 #[v, .func (.func fn) #[] #[cap1]] w fun e w' => ∃ v', e = .returned v' ∧ w'.ownsRow base 49 2 v' (l.filter fun x => !p x).length (wdwCells (l.filter fun x => !p x)) ∧ Below base w w' := by
  have hR : RdWdw w v l := Rd.of_own hown
  have hidx := indexW_any v l w fn cap1 p hR hlong hcf (fun x w' h => hp x w' (h.mono hbase))
  have HP := Lib.hid hp
  have HI := Lib.hid hidx
  have HR := Lib.hid hR
  clear hp hidx hR
  rcases idxW_spec p l 0 with ⟨e, hall⟩ | ⟨n, e, h0, h3, h4, h5⟩
  · rw [e] at HI
    have hfl := filterW_all hall
    have HF := Lib.hid hfl
    clear e hall hfl
    go_enter Try.func33, Try.ntmps33
    go_wp2_with fail
    refine HI.out.mono ?_
    rintro e w1 ⟨rfl, hb1⟩
    go_wp2_with fail
    go_ret
    exact ⟨_, rfl, by rw [HF.out]; exact ownW_below hown hb1, hb1.mono hbase⟩
  · rw [e] at HI
    have hst := halfW_start p l n h3 h4 h5
    have HST := Lib.hid hst
    obtain ⟨g, cap, rfl, hg, hc1, hc2⟩ := own_form hown (by omega)
    have hc2' := hc2
    unfold maxLen at hc2
    clear e h0 h4 h5 hst
    have hne : ((n : Int) == -1) = false := by rw [beq_eq_false_iff_ne]; omega
    go_enter Try.func33, Try.ntmps33
    go_wp2_with fail
    refine HI.out.mono ?_
    rintro e w1 ⟨rfl, hb1⟩
    have hown1 := ownW_below hown hb1
    have hb1' := hb1.mono hbase
    clear hb1
    go_wp2_with fail
    go_loopw [5, 6] (fun si sj wr => ∃ (i j : Nat) (row : List (Int × Int)), si = .int .i64 (i : Int) ∧ sj = .int .i64 (j : Int) ∧ i < j ∧ j ≤ l.length ∧ HalfW p l row i j ∧ wr.ownsRow base 49 2 (.slice (some ⟨g, 0, none⟩) l.length cap) l.length (wdwCells row) ∧ Below base w wr) (fun _ sj _ => l.length - (intOf sj).toNat)
    case atStart => exact ⟨n, n + 1, l, rfl, by go_num, by omega, by omega, HST.out, hown1, hb1'⟩
    case round =>
      clear hown hown1 hb1'
      obtain ⟨i, j, row, rfl, rfl, hij, hj, hH, hown, hbr⟩ := hrel
      have HH := Lib.hid hH
      clear hH
      by_cases hlt : j < l.length
      · have hrl : row.length = l.length := HH.out.1
        have hat := halfW_at HH.out hlt
        obtain ⟨c0, c1'⟩ := own_wdw hown hrl j hlt
        have hge : row[j]'(by omega) = atW l j := by
          have e := hat; rw [List.getElem?_eq_getElem (by omega)] at e; exact Option.some.inj e
        rw [hge] at c0 c1'
        have f0 := hown.frozenAt (i * 2)
        have f1 := hown.frozenAt (i * 2 + 1)
        have hskip := fun hpp : p (atW l j) = true => halfW_skip HH.out hlt hpp
        have hput := fun hpp : p (atW l j) = false => halfW_put HH.out hlt hpp
        have hgr : g < wr.heap.size := (hown.lt g rfl).2
        generalize atW l j = x at *
        have HRL := Lib.hid hrl
        have HSK := Lib.hid hskip
        have HPU := Lib.hid hput
        clear hat hge hskip hput hrl
        go_wp2_with fail
        refine (HP.out x _ (hbr.alloc (by have := hbr.size; omega) _)).mono ?_
        rintro e w2 ⟨rfl, hb2⟩
        have hown2 := ownW_below (hown.alloc (.cells #[.int .i64 x.1, .int .i64 x.2] 49)) hb2
        have hbr2 : Below base w w2 := (hbr.alloc (by have := hbr.size; omega) _).trans (hb2.mono (by have := hbr.size; simp; omega))
        have hB : Blk w2 wr.heap.size 49 #[.int .i64 x.1, .int .i64 x.2] := (Blk.new wr _ _).below hb2 (by simp)
        have d0 := hB.cell 0
        have d1 := hB.cell 1
        obtain ⟨px, hpx⟩ : ∃ b, b = p x := ⟨_, rfl⟩
        have HPX := Lib.hid hpx
        rw [← hpx]
        clear hb2 hown hB c0 c1' hbr hpx f0 f1
        cases px
        · have g0 := hown2.frozenAt (i * 2)
          have g1 := hown2.frozenAt (i * 2 + 1)
          obtain ⟨k0, k1⟩ := own_wdw hown2 HRL.out i (by omega)
          generalize row[i]'(by have := HRL.out; omega) = y at *
          go_wp2_with fail
          go_roundw
          case rel =>
            refine ⟨i + 1, j + 1, row.set i x, by go_num, by go_num, by omega, by omega, HPU.out HPX.out.symm, ?_, by (repeat (refine Below.setCell ?_ hg _)); exact hbr2⟩
            have hl := HRL.out
            have := own_putW (w := w2) (l := row) (by rw [hl]; exact hown2) i (by rw [hl]; omega) x
            rw [hl] at this
            exact this
          case measure => simp [intOf]; omega
        · go_wp2_with fail
          go_roundw
          case rel => exact ⟨i, j + 1, row, rfl, by go_num, by omega, by omega, HSK.out HPX.out.symm, hown2, hbr2⟩
          case measure => simp [intOf]; omega
      · obtain rfl : j = l.length := by omega
        have hrl : row.length = l.length := HH.out.1
        have HRL := Lib.hid hrl
        have hend := halfW_end HH.out
        have HE := Lib.hid hend
        have hcells : ∃ cur : Array Value, wr.heap[g]? = some (.cells cur 49 (0, 0)) ∧ cur.size = cap * 2 ∧ cur.toList.take (l.length * 2) = wdwCells row := by
          obtain ⟨_, h | ⟨g', cap', cur, hv, hb, hh, hn, hm, hs, hx⟩⟩ := hown
          · exact absurd h.2 (by omega)
          · simp only [Value.slice.injEq, Option.some.injEq, Addr.mk.injEq, and_true, true_and] at hv
            obtain ⟨rfl, rfl⟩ := hv
            exact ⟨cur, hh, hs, hx⟩
        obtain ⟨cur, hh, hs, hx⟩ := hcells
        obtain ⟨w2, hr, ⟨cur', hh', hsz', hsame⟩, hgrow⟩ := run_clear_wdw wr 0 g i (l.length - i) (cap - i) cur hh (by omega) (by omega)
        have hb2 := hbr.trans (below_grown hown (by have := hbr.size; omega) hgrow)
        have hfl : (l.filter fun x => !p x).length = i := by rw [← hend]; simp; omega
        have hfin : w2.ownsRow base 49 2 (.slice (some ⟨g, 0, none⟩) i cap) (l.filter fun x => !p x).length (wdwCells (l.filter fun x => !p x)) := by
          rw [hfl, ← hend]
          refine ⟨by rw [wdwCells_length]; simp; omega, .inr ⟨g, cap, cur', rfl, hg, hh', by omega, hc2', by rw [hsz', hs], ?_⟩⟩
          apply List.ext_getElem?
          intro j
          by_cases hj : j < i * 2
          · rw [List.getElem?_take_of_lt hj, Array.getElem?_toList, hsame j hj]
            have hx2 : wdwCells (row.take i) = (wdwCells row).take (i * 2) := by
              have e := congrArg (fun z => (wdwCells z).take (i * 2)) (List.take_append_drop i row)
              simp only [wdwCells_append] at e
              rw [← e, List.take_append_of_le_length (by rw [wdwCells_length]; simp; omega), List.take_of_length_le (l := wdwCells (row.take i)) (by rw [wdwCells_length]; simp; omega)]
            rw [hx2, ← hx, List.getElem?_take_of_lt hj, List.getElem?_take_of_lt (by omega), Array.getElem?_toList]
          · rw [List.getElem?_eq_none (by simp; omega), List.getElem?_eq_none (by rw [wdwCells_length]; simp; omega)]
        have HF := Lib.hid hfin
        clear hrl hend hh hs hx hh' hsame hgrow hfin hown hfl hsz'
        go_wp2_with fail
        go_ret
        exact ⟨_, rfl, HF.out, hb2⟩
end Go.Proofs.Ytdacdiigeainmaa
