import Derived.Test.YtjoknaglhahbaaaWdv
import Derived.Test.YtjoknaglhahbaaaDist
import Derived.Laws.CopyRow
import Derived.Laws.Tables
import Derived.Test.YtjoknaglhahbaaaChk
import Derived.Test.YtjoknaglhahbaaaActm
import Derived.Test.YtjoknaglhahbaaaSerr
/- slices.IndexFunc and slices.DeleteFunc at windows, with a condition on each that is asked by a closure over one box. -/

namespace Go.Proofs.Ytjoknaglhahbaaa
open Go.RowKit
set_option linter.unusedVariables false
set_option linter.unusedSimpArgs false

def wdwAgg (x : Int × Int) : Value := .agg #[.int .i64 x.1, .int .i64 x.2]
def atW (l : List (Int × Int)) (i : Nat) : Int × Int := l.getD i (0, 0)
theorem atW_eq (l : List (Int × Int)) (i : Nat) (h : i < l.length) : l[i] = atW l i := by simp [atW, List.getD_eq_getElem?_getD, List.getElem?_eq_getElem h]
theorem RdWdw.at_ {w : World} {v : Value} {l : List (Int × Int)} (h : RdWdw w v l) (hn : 0 < l.length) :
    ∃ b off c, v = .slice (some ⟨b, off, none⟩) l.length c ∧ l.length ≤ c ∧ c ≤ maxLen ∧ b < w.heap.size ∧ ∀ i, i < l.length →
      w.cell? ⟨b, off + i * 2, none⟩ = some (.int .i64 (atW l i).1) ∧ w.cell? ⟨b, off + i * 2 + 1, none⟩ = some (.int .i64 (atW l i).2) := by
  obtain ⟨b, off, c, hv, h2, h3, hlt, hc⟩ := RdWdw.cells h hn
  exact ⟨b, off, c, hv, h2, h3, hlt, fun i hi => by rw [← atW_eq l i hi]; exact hc i hi⟩
theorem ownW_below {w w' : World} {base : Nat} {e : TypeId} {size n : Nat} {v : Value} {xs : List Value} (h : w.ownsRow base e size v n xs) (hb : Below w.heap.size w w') : w'.ownsRow base e size v n xs := own_keep h fun b _ _ hh => hb.block b (lt_of_heap hh)
theorem own_putW {w : World} {base g cap : Nat} {e : TypeId} {l : List (Int × Int)} (h : w.ownsRow base e 2 (.slice (some ⟨g, 0, none⟩) l.length cap) l.length (wdwCells l)) (i : Nat) (hi : i < l.length) (y : Int × Int) :
    ((w.setCell ⟨g, i * 2, none⟩ (.int .i64 y.1)).setCell ⟨g, i * 2 + 1, none⟩ (.int .i64 y.2)).ownsRow base e 2 (.slice (some ⟨g, 0, none⟩) l.length cap) l.length (wdwCells (l.set i y)) := by
  have h1 := (h.stored (i * 2) (.int .i64 y.1)).1
  have h2 := (h1.stored (i * 2 + 1) (.int .i64 y.2)).1
  rwa [wdwCells_set l i hi y] at h2


/-- The function value fn with what it captured asks p of a sample: it answers, and turns nothing that was there. -/
def AsksW (w : World) (fn : FuncId) (caps : Array Value) (p : Int × Int → Bool) : Prop :=
  ∀ (x : Int × Int) (w' : World), Below w.heap.size w w' → Calls Try.prog fn (#[(wdwAgg x)] ++ caps) w' fun e w'' => e = .returned (.bool (p x)) ∧ Below w'.heap.size w' w''

/-- The index of the first sample of which p holds, from i on. -/
def idxW (p : Int × Int → Bool) (l : List (Int × Int)) (i : Nat) : Int :=
  if h : i < l.length then (if p (atW l i) = true then (i : Int) else idxW p l (i + 1)) else -1
  termination_by l.length - i

theorem idxW_end (p : Int × Int → Bool) (l : List (Int × Int)) (i : Nat) (h : l.length ≤ i) : idxW p l i = -1 := by rw [idxW.eq_def, dif_neg (by omega)]
theorem idxW_step (p : Int × Int → Bool) (l : List (Int × Int)) (i : Nat) (h : i < l.length) : idxW p l i = if p (atW l i) = true then (i : Int) else idxW p l (i + 1) := by rw [idxW.eq_def, dif_pos h]

theorem idxW_spec (p : Int × Int → Bool) (l : List (Int × Int)) (i : Nat) : (idxW p l i = -1 ∧ ∀ k, i ≤ k → k < l.length → p (atW l k) = false) ∨ (∃ n : Nat, idxW p l i = (n : Int) ∧ i ≤ n ∧ n < l.length ∧ p (atW l n) = true ∧ ∀ k, i ≤ k → k < n → p (atW l k) = false) := by
  rcases Nat.lt_or_ge i l.length with h | h
  · rw [idxW_step p l i h]
    by_cases hp : p (atW l i) = true
    · rw [if_pos hp]
      exact .inr ⟨i, rfl, Nat.le_refl _, h, hp, fun k h1 h2 => by omega⟩
    · rw [if_neg hp]
      have hp' : p (atW l i) = false := by simpa using hp
      rcases idxW_spec p l (i + 1) with ⟨h1, h2⟩ | ⟨n, h1, h2, h3, h4, h5⟩
      · exact .inl ⟨h1, fun k hk1 hk2 => by
          rcases Nat.eq_or_lt_of_le hk1 with e | e
          · rw [← e]; exact hp'
          · exact h2 k e hk2⟩
      · exact .inr ⟨n, h1, by omega, h3, h4, fun k hk1 hk2 => by
          rcases Nat.eq_or_lt_of_le hk1 with e | e
          · rw [← e]; exact hp'
          · exact h5 k e hk2⟩
  · rw [idxW_end p l i h]
    exact .inl ⟨rfl, fun k h1 h2 => by omega⟩
  termination_by l.length - i

set_option maxRecDepth 100000 in
set_option maxHeartbeats 2000000 in
theorem indexW_any (v : Value) (l : List (Int × Int)) (w : World) (fn : FuncId) (cap1 : Value) (p : Int × Int → Bool) (hR : RdWdw w v l) (hlong : l.length ≤ 5000)
    (hcf : ∀ (args : Array Value) (w : World), (callFunc fn args).run Try.prog w = .ok (.enter fn args) w) (hp : AsksW w fn #[cap1] p) :
    Calls Try.prog 39 #[v, .func (.func fn) #[] #[cap1]] w fun e w' => e = .returned (.int .i64 (idxW p l 0)) ∧ Below w.heap.size w w' := by
  have HP := Lib.hid hp
  obtain ⟨hlen1, pa, ca, rfl, na1, na2, ca3⟩ := hR
  have HR := Lib.hid (show RdWdw w (.slice pa l.length ca) l from ⟨hlen1, pa, ca, rfl, na1, na2, ca3⟩)
  clear hlen1 ca3 hp
  go_enter Try.func39, Try.ntmps39
  go_wp2_with fail
  go_loopw [8] (fun si wr => ∃ j : Nat, j ≤ l.length ∧ si = .int .i64 (j : Int) ∧ idxW p l j = idxW p l 0 ∧ Below w.heap.size w wr) (fun si _ => l.length - (intOf si).toNat)
  case atStart => exact ⟨0, by omega, rfl, rfl, Below.refl _ _⟩
  case round =>
    obtain ⟨j, hj, rfl, hidx, hbr⟩ := hrel
    have HIDX := Lib.hid hidx
    clear hidx
    by_cases hlt : j < l.length
    · have hRr : RdWdw wr (.slice pa l.length ca) l := Rd.below HR.out hbr
      obtain ⟨b, off, c, hv, hc1, hc2, hblt, hcell⟩ := RdWdw.at_ hRr (by omega)
      simp only [Value.slice.injEq, true_and] at hv
      obtain ⟨rfl, rfl⟩ := hv
      obtain ⟨c0, c1'⟩ := hcell j hlt
      have hstep := idxW_step p l j hlt
      generalize atW l j = x at *
      have HSTEP := Lib.hid hstep
      clear hcell hRr hstep
      unfold maxLen at hc2
      go_wp2_with fail
      refine (HP.out x _ hbr).mono ?_
      rintro e w2 ⟨rfl, hb2⟩
      generalize p x = px at *
      cases px
      · go_wp2_with fail
        go_roundw
        case rel => exact ⟨j + 1, by omega, by go_num, by rw [← HIDX.out, HSTEP.out]; simp, hbr.trans (hb2.mono hbr.size)⟩
        case measure => simp [intOf]; omega
      · go_wp2_with fail
        go_ret
        exact ⟨ret_int (by rw [← HIDX.out, HSTEP.out]; simp), hbr.trans (hb2.mono hbr.size)⟩
    · obtain rfl : j = l.length := by omega
      have hf := idxW_end p l l.length (Nat.le_refl _)
      have HF := Lib.hid hf
      clear hf
      go_wp2_with fail
      go_ret
      exact ⟨ret_int (by rw [← HIDX.out, HF.out]), hbr⟩


theorem wdw_zero (w : World) : (zeroValue 40).run Try.prog w = .ok (.agg #[.int .i64 0, .int .i64 0]) w := by kernel_rfl

theorem zeroCells_wdw (n : Nat) : (Builtin.zeroCells (Value.cells (.agg #[.int .i64 0, .int .i64 0])) n).toList = List.replicate (n * 2) (.int .i64 0) := by
  apply List.ext_getElem
  · simp [Builtin.zeroCells, Value.cells]
  · intro i h1 h2
    have h3 : i % 2 = 0 ∨ i % 2 = 1 := by omega
    simp [Builtin.zeroCells, Value.cells]
    rcases h3 with h | h <;> simp [h]

/-- clear of a slice of samples: only its own block turns, and of that only its own cells. -/
theorem run_clear_wdw (w : World) (ty : TypeId) (g i n c : Nat) (cur : Array Value) (hg : w.heap[g]? = some (.cells cur 40 (0, 0))) (hn : 0 < n) (hl : (i + n) * 2 ≤ cur.size) :
    ∃ w', (Builtin.clear_ #[29] ty #[.slice (some ⟨g, i * 2, none⟩) n c]).run Try.prog w = .ok (.tuple #[]) w' ∧ (∃ cur' : Array Value, w'.heap[g]? = some (.cells cur' 40 (0, 0)) ∧ cur'.size = cur.size ∧ ∀ j, j < i * 2 → cur'[j]? = cur[j]?) ∧ w.grownBy w' (some g) := by
  have hst := run_storeCells_at (P := Try.prog) g (i * 2) 40 (List.replicate (n * 2) (.int .i64 0)) 0 cur w hg (by simp; omega) (fun v hv => by rw [List.eq_of_mem_replicate hv]; rfl)
  obtain ⟨m, rfl⟩ : ∃ m, n = m + 1 := ⟨n - 1, by omega⟩
  obtain ⟨N, hN⟩ : ∃ N : Array Value, N = (cur.toList.take (i * 2 + 0) ++ List.replicate ((m + 1) * 2) (Value.int .i64 0) ++ cur.toList.drop (i * 2 + 0 + (List.replicate ((m + 1) * 2) (Value.int .i64 0)).length)).toArray := ⟨_, rfl⟩
  rw [← hN] at hst
  refine ⟨w.setRow g N, ?_, ⟨N, setRow_heap w g cur N _ _ hg, ?_, ?_⟩, ?_⟩
  · simp [Builtin.clear_, run_underlying Try.underlying29, wdw_zero, zeroCells_wdw, hst]
  · rw [hN]; simp; omega
  · intro j hj
    rw [hN]
    simp only [List.getElem?_toArray]
    rw [List.append_assoc, List.getElem?_append_left (by simp; omega), List.getElem?_take_of_lt (by omega)]
    simp
  · exact ⟨rfl, rfl, rfl, by simp, fun k hk hne => setRow_other w g k N (fun e => hne (by rw [e]))⟩

/-- clear of a slice of samples, as a step. -/
theorem wpList_clear_wdw {w : World} {ops : Array Oper} {rest : List Oper} {o : Oper} {a : Act} {Q : Exit → Act → World → Prop} (hgd : o.guard = none) (x : Operand)
    (ho : o.op = .call { callee := .builtin .clear, args := #[x], argTypes := #[29] }) (g i off n c : Nat) (cur : Array Value) (hx : a.eval x = .slice (some ⟨g, off, none⟩) n c) (hoff : off = i * 2)
    (hg : w.heap[g]? = some (.cells cur 40 (0, 0))) (hn : 0 < n) (hl : (i + n) * 2 ≤ cur.size)
    (h : ∀ w', (∃ cur' : Array Value, w'.heap[g]? = some (.cells cur' 40 (0, 0)) ∧ cur'.size = cur.size ∧ ∀ j, j < i * 2 → cur'[j]? = cur[j]?) → w.grownBy w' (some g) → wpList Try.prog ops Q rest (a.put o.dst (.tuple #[])) w') : wpList Try.prog ops Q (o :: rest) a w := by
  subst hoff
  refine wpList_plain hgd fun K hK => ?_
  obtain ⟨w', hr, h1, h2⟩ := run_clear_wdw w o.type g i n c cur hg hn hl
  unfold Oper.wp execOp
  simp only [ho, resolve, invoke, builtin, Sem.run_bind, Sem.run_pure, Result.andThen_ok, List.map_toArray, List.map_cons, List.map_nil, hx, hr]
  exact hK _ _ (h w' h1 h2)

/-- As AsksW, but blocks of the call's own may have turned. -/
def AsksBW (base : Nat) (w : World) (fn : FuncId) (caps : Array Value) (p : Int × Int → Bool) : Prop :=
  ∀ (x : Int × Int) (w' : World), Below base w w' → Calls Try.prog fn (#[(wdwAgg x)] ++ caps) w' fun e w'' => e = .returned (.bool (p x)) ∧ Below w'.heap.size w' w''

theorem filterW_all {p : Int × Int → Bool} {l : List (Int × Int)} (h : ∀ k, 0 ≤ k → k < l.length → p (atW l k) = false) : l.filter (fun x => !p x) = l := by
  rw [List.filter_eq_self]
  intro x hx
  obtain ⟨k, hk, rfl⟩ := List.getElem_of_mem hx
  rw [atW_eq l k hk, h k (Nat.zero_le _) hk]; rfl

/-- What the row holds in the loop: the kept ones of the first j, then anything, then the rest. -/
def HalfW (p : Int × Int → Bool) (l row : List (Int × Int)) (i j : Nat) : Prop :=
  row.length = l.length ∧ i < j ∧ j ≤ l.length ∧ row.take i = (l.take j).filter (fun x => !p x) ∧ row.drop j = l.drop j

theorem halfW_start (p : Int × Int → Bool) (l : List (Int × Int)) (n : Nat) (h3 : n < l.length) (h4 : p (atW l n) = true) (h5 : ∀ k, 0 ≤ k → k < n → p (atW l k) = false) : HalfW p l l n (n + 1) := by
  refine ⟨rfl, by omega, by omega, ?_, rfl⟩
  rw [List.take_succ_eq_append_getElem h3, List.filter_append, atW_eq l n h3]
  have e : (l.take n).filter (fun x => !p x) = l.take n := by
    refine filterW_all fun k h0 hk => ?_
    have hk' : k < n := by simp at hk; omega
    rw [← atW_eq _ _ hk, List.getElem_take, atW_eq l k (by omega)]
    exact h5 k h0 hk'
  rw [e]
  simp [h4]
theorem halfW_at {p : Int × Int → Bool} {l row : List (Int × Int)} {i j : Nat} (h : HalfW p l row i j) (hj : j < l.length) : row[j]? = some (atW l j) := by
  have e := congrArg (fun x => x[0]?) h.2.2.2.2
  simp only [List.getElem?_drop, Nat.add_zero] at e
  rw [e, List.getElem?_eq_getElem hj, atW_eq l j hj]
theorem halfW_skip {p : Int × Int → Bool} {l row : List (Int × Int)} {i j : Nat} (h : HalfW p l row i j) (hj : j < l.length) (hp : p (atW l j) = true) : HalfW p l row i (j + 1) := by
  obtain ⟨h1, h2, h3, h4, h5⟩ := h
  refine ⟨h1, by omega, by omega, ?_, ?_⟩
  · rw [List.take_succ_eq_append_getElem hj, List.filter_append, atW_eq l j hj, ← h4]
    simp [hp]
  · have := congrArg (List.drop 1) h5
    simpa [List.drop_drop, Nat.add_comm] using this
theorem halfW_put {p : Int × Int → Bool} {l row : List (Int × Int)} {i j : Nat} (h : HalfW p l row i j) (hj : j < l.length) (hp : p (atW l j) = false) : HalfW p l (row.set i (atW l j)) (i + 1) (j + 1) := by
  obtain ⟨h1, h2, h3, h4, h5⟩ := h
  refine ⟨by simpa using h1, by omega, by omega, ?_, ?_⟩
  · rw [List.take_succ_eq_append_getElem hj, List.filter_append, atW_eq l j hj, ← h4, List.take_succ_eq_append_getElem (by simp; omega)]
    simp [hp, List.take_set_of_le]
  · rw [List.drop_set_of_lt (by omega)]
    have := congrArg (List.drop 1) h5
    simpa [List.drop_drop, Nat.add_comm] using this
theorem halfW_end {p : Int × Int → Bool} {l row : List (Int × Int)} {i : Nat} (h : HalfW p l row i l.length) : row.take i = l.filter (fun x => !p x) := by
  have := h.2.2.2.1
  rwa [List.take_length] at this



theorem ownW_rd {w : World} {g cap i : Nat} {row : List (Int × Int)} (h : ∃ cur : Array Value, w.heap[g]? = some (.cells cur 40 (0, 0)) ∧ ∀ j, j < i * 2 → cur[j]? = (wdwCells row)[j]?)
    (hi : i ≤ row.length) (hc : i ≤ cap) (hm : cap ≤ maxLen) (hpos : 0 < cap) : RdWdw w (.slice (some ⟨g, 0, none⟩) i cap) (row.take i) := by
  obtain ⟨cur, h1, h2⟩ := h
  have hl : (row.take i).length = i := by simp; omega
  unfold RdWdw
  rw [hl]
  refine ⟨by rw [wdwCells_length, hl], some ⟨g, 0, none⟩, cap, rfl, hc, hm, fun _ => ⟨g, 0, cur, (0, 0), rfl, h1, fun j hj => ?_⟩⟩
  rw [Nat.zero_add, h2 j hj]
  have e : wdwCells row = wdwCells (row.take i) ++ wdwCells (row.drop i) := by rw [← wdwCells_append, List.take_append_drop]
  rw [e, List.getElem?_append_left (by rw [wdwCells_length, hl]; exact hj)]

set_option maxRecDepth 100000 in
set_option maxHeartbeats 4000000 in
theorem deleteW_any (v : Value) (l : List (Int × Int)) (w : World) (base : Nat) (fn : FuncId) (cap1 : Value) (p : Int × Int → Bool) (hown : w.ownsRow base 40 2 v l.length (wdwCells l)) (hbase : base ≤ w.heap.size) (hlong : l.length ≤ 5000)
    (hcf : ∀ (args : Array Value) (w : World), (callFunc fn args).run Try.prog w = .ok (.enter fn args) w) (hp : AsksBW base w fn #[cap1] p) :
    Calls Try.prog 22 #[v, .func (.func fn) #[] #[cap1]] w fun e w' => ∃ v', e = .returned v' ∧ w'.ownsRow base 40 2 v' (l.filter fun x => !p x).length (wdwCells (l.filter fun x => !p x)) ∧ Below base w w' := by
  have hR : RdWdw w v l := Rd.of_own hown
  have hidx := indexW_any v l w fn cap1 p hR hlong hcf (fun x w' h => hp x w' (h.mono hbase))
  have HP := Lib.hid hp
  have HI := Lib.hid hidx
  have HR := Lib.hid hR
  clear hp hidx hR
  rcases idxW_spec p l 0 with ⟨e, hall⟩ | ⟨n, e, h0, h3, h4, h5⟩
  · rw [e] at HI
    have hfl := filterW_all hall
    have HF := Lib.hid hfl
    clear e hall hfl
    go_enter Try.func22, Try.ntmps22
    go_wp2_with fail
    refine HI.out.mono ?_
    rintro e w1 ⟨rfl, hb1⟩
    go_wp2_with fail
    go_ret
    exact ⟨_, rfl, by rw [HF.out]; exact ownW_below hown hb1, hb1.mono hbase⟩
  · rw [e] at HI
    have hst := halfW_start p l n h3 h4 h5
    have HST := Lib.hid hst
    obtain ⟨g, cap, rfl, hg, hc1, hc2⟩ := own_form hown (by omega)
    have hc2' := hc2
    unfold maxLen at hc2
    clear e h0 h4 h5 hst
    have hne : ((n : Int) == -1) = false := by rw [beq_eq_false_iff_ne]; omega
    go_enter Try.func22, Try.ntmps22
    go_wp2_with fail
    refine HI.out.mono ?_
    rintro e w1 ⟨rfl, hb1⟩
    have hown1 := ownW_below hown hb1
    have hb1' := hb1.mono hbase
    clear hb1
    go_wp2_with fail
    go_loopw [5, 6] (fun si sj wr => ∃ (i j : Nat) (row : List (Int × Int)), si = .int .i64 (i : Int) ∧ sj = .int .i64 (j : Int) ∧ i < j ∧ j ≤ l.length ∧ HalfW p l row i j ∧ wr.ownsRow base 40 2 (.slice (some ⟨g, 0, none⟩) l.length cap) l.length (wdwCells row) ∧ Below base w wr) (fun _ sj _ => l.length - (intOf sj).toNat)
    case atStart => exact ⟨n, n + 1, l, rfl, by go_num, by omega, by omega, HST.out, hown1, hb1'⟩
    case round =>
      clear hown hown1 hb1'
      obtain ⟨i, j, row, rfl, rfl, hij, hj, hH, hown, hbr⟩ := hrel
      have HH := Lib.hid hH
      clear hH
      by_cases hlt : j < l.length
      · have hrl : row.length = l.length := HH.out.1
        have hat := halfW_at HH.out hlt
        obtain ⟨c0, c1'⟩ := own_wdw hown hrl j hlt
        have hge : row[j]'(by omega) = atW l j := by
          have e := hat; rw [List.getElem?_eq_getElem (by omega)] at e; exact Option.some.inj e
        rw [hge] at c0 c1'
        have f0 := hown.frozenAt (i * 2)
        have f1 := hown.frozenAt (i * 2 + 1)
        have hskip := fun hpp : p (atW l j) = true => halfW_skip HH.out hlt hpp
        have hput := fun hpp : p (atW l j) = false => halfW_put HH.out hlt hpp
        have hgr : g < wr.heap.size := (hown.lt g rfl).2
        generalize atW l j = x at *
        have HRL := Lib.hid hrl
        have HSK := Lib.hid hskip
        have HPU := Lib.hid hput
        clear hat hge hskip hput hrl
        go_wp2_with fail
        refine (HP.out x _ (hbr.alloc (by have := hbr.size; omega) _)).mono ?_
        rintro e w2 ⟨rfl, hb2⟩
        have hown2 := ownW_below (hown.alloc (.cells #[.int .i64 x.1, .int .i64 x.2] 40)) hb2
        have hbr2 : Below base w w2 := (hbr.alloc (by have := hbr.size; omega) _).trans (hb2.mono (by have := hbr.size; simp; omega))
        have hB : Blk w2 wr.heap.size 40 #[.int .i64 x.1, .int .i64 x.2] := (Blk.new wr _ _).below hb2 (by simp)
        have d0 := hB.cell 0
        have d1 := hB.cell 1
        obtain ⟨px, hpx⟩ : ∃ b, b = p x := ⟨_, rfl⟩
        have HPX := Lib.hid hpx
        rw [← hpx]
        clear hb2 hown hB c0 c1' hbr hpx f0 f1
        cases px
        · have g0 := hown2.frozenAt (i * 2)
          have g1 := hown2.frozenAt (i * 2 + 1)
          obtain ⟨k0, k1⟩ := own_wdw hown2 HRL.out i (by omega)
          generalize row[i]'(by have := HRL.out; omega) = y at *
          go_wp2_with fail
          go_roundw
          case rel =>
            refine ⟨i + 1, j + 1, row.set i x, by go_num, by go_num, by omega, by omega, HPU.out HPX.out.symm, ?_, by (repeat (refine Below.setCell ?_ hg _)); exact hbr2⟩
            have hl := HRL.out
            have := own_putW (w := w2) (l := row) (by rw [hl]; exact hown2) i (by rw [hl]; omega) x
            rw [hl] at this
            exact this
          case measure => simp [intOf]; omega
        · go_wp2_with fail
          go_roundw
          case rel => exact ⟨i, j + 1, row, rfl, by go_num, by omega, by omega, HSK.out HPX.out.symm, hown2, hbr2⟩
          case measure => simp [intOf]; omega
      · obtain rfl : j = l.length := by omega
        have hrl : row.length = l.length := HH.out.1
        have HRL := Lib.hid hrl
        have hend := halfW_end HH.out
        have HE := Lib.hid hend
        have hcells : ∃ cur : Array Value, wr.heap[g]? = some (.cells cur 40 (0, 0)) ∧ cur.size = cap * 2 ∧ cur.toList.take (l.length * 2) = wdwCells row := by
          obtain ⟨_, h | ⟨g', cap', cur, hv, hb, hh, hn, hm, hs, hx⟩⟩ := hown
          · exact absurd h.2 (by omega)
          · simp only [Value.slice.injEq, Option.some.injEq, Addr.mk.injEq, and_true, true_and] at hv
            obtain ⟨rfl, rfl⟩ := hv
            exact ⟨cur, hh, hs, hx⟩
        obtain ⟨cur, hh, hs, hx⟩ := hcells
        obtain ⟨w2, hr, ⟨cur', hh', hsz', hsame⟩, hgrow⟩ := run_clear_wdw wr 0 g i (l.length - i) (cap - i) cur hh (by omega) (by omega)
        have hb2 := hbr.trans (below_grown hown (by have := hbr.size; omega) hgrow)
        have hfl : (l.filter fun x => !p x).length = i := by rw [← hend]; simp; omega
        have hfin : w2.ownsRow base 40 2 (.slice (some ⟨g, 0, none⟩) i cap) (l.filter fun x => !p x).length (wdwCells (l.filter fun x => !p x)) := by
          rw [hfl, ← hend]
          refine ⟨by rw [wdwCells_length]; simp; omega, .inr ⟨g, cap, cur', rfl, hg, hh', by omega, hc2', by rw [hsz', hs], ?_⟩⟩
          apply List.ext_getElem?
          intro j
          by_cases hj : j < i * 2
          · rw [List.getElem?_take_of_lt hj, Array.getElem?_toList, hsame j hj]
            have hx2 : wdwCells (row.take i) = (wdwCells row).take (i * 2) := by
              have e := congrArg (fun z => (wdwCells z).take (i * 2)) (List.take_append_drop i row)
              simp only [wdwCells_append] at e
              rw [← e, List.take_append_of_le_length (by rw [wdwCells_length]; simp; omega), List.take_of_length_le (l := wdwCells (row.take i)) (by rw [wdwCells_length]; simp; omega)]
            rw [hx2, ← hx, List.getElem?_take_of_lt hj, List.getElem?_take_of_lt (by omega), Array.getElem?_toList]
          · rw [List.getElem?_eq_none (by simp; omega), List.getElem?_eq_none (by rw [wdwCells_length]; simp; omega)]
        have HF := Lib.hid hfin
        clear hrl hend hh hs hx hh' hsame hgrow hfin hown hfl hsz'
        go_wp2_with fail
        go_ret
        exact ⟨_, rfl, HF.out, hb2⟩
end Go.Proofs.Ytjoknaglhahbaaa

/- CheckTrigger (package batch), and the mathematics of frames. No condition. -/

namespace Go.Proofs.Ytjoknaglhahbaaa
open Go.RowKit
set_option linter.unusedVariables false
set_option linter.unusedSimpArgs false

/-- A trigger as data. -/
structure Trg where
  st : Int
  sp : Int
  jn : Int
  ls : Int
def trgCells (t : Trg) : Array Value := #[.int .i64 t.st, .int .i64 t.sp, .int .i64 t.jn, .int .i64 t.ls]
/-- What is wrong with a trigger. -/
def trgErr (t : Trg) : Int := if inB t.st (-1000000) 1000000 = true ∧ inB t.sp (-1000000) 1000000 = true ∧ t.sp ≤ t.st ∧ inB t.jn 0 86400000 = true ∧ inB t.ls 0 86400000 = true then 0 else 1

set_option maxRecDepth 100000 in
set_option maxHeartbeats 4000000 in
theorem checkTrigger_any (t : Trg) (w : World) : Calls Try.prog 17 #[.agg (trgCells t)] w fun e w' => e = .returned (.int .i64 (trgErr t)) ∧ Below w.heap.size w w' := by
  have hE : trgErr t = if inB t.st (-1000000) 1000000 = true ∧ inB t.sp (-1000000) 1000000 = true ∧ t.sp ≤ t.st ∧ inB t.jn 0 86400000 = true ∧ inB t.ls 0 86400000 = true then 0 else 1 := rfl
  obtain ⟨st, sp, jn, ls⟩ := t
  generalize trgErr ⟨st, sp, jn, ls⟩ = E at *
  simp only [trgCells] at hE ⊢
  have h1 := within_any jn 0 86400000
  have h2 := within_any ls 0 86400000
  have h3 := isValue_any st
  have h4 := isValue_any sp
  have hbw : Below w.heap.size w (w.alloc (.cells #[.int .i64 st, .int .i64 sp, .int .i64 jn, .int .i64 ls] 34)) := (Below.refl _ w).alloc (Nat.le_refl _) _
  have H1 := Lib.hid h1
  have H2 := Lib.hid h2
  have H3 := Lib.hid h3
  have H4 := Lib.hid h4
  generalize inB jn 0 86400000 = a at *
  generalize inB ls 0 86400000 = b at *
  generalize inB st (-1000000) 1000000 = c at *
  generalize inB sp (-1000000) 1000000 = d at *
  have HE := Lib.hid hE
  clear h1 h2 h3 h4 hE
  cases a
  all_goals cases b
  all_goals cases c
  all_goals cases d
  all_goals by_cases hlt : st < sp
  all_goals
    go_enter Try.func17, Try.ntmps17
    go_wp2_with (first | (go_at_call 19; (with_reducible refine (H1.out _).mono ?_); rintro e w2 ⟨rfl, rfl⟩) | (go_at_call 19; (with_reducible refine (H2.out _).mono ?_); rintro e w2 ⟨rfl, rfl⟩) | (go_at_call 30; (with_reducible refine (H3.out _).mono ?_); rintro e w2 ⟨rfl, rfl⟩) | (go_at_call 30; (with_reducible refine (H4.out _).mono ?_); rintro e w2 ⟨rfl, rfl⟩))
    go_ret
    exact ⟨ret_int (by rw [HE.out]; simp; try omega), hbw⟩

/-- What a sample makes of the frames so far, and of whether there is a current one. -/
def trs (t : Trg) (u : Int) (S : Bool × List (Int × Int)) (x : Smp) : Bool × List (Int × Int) :=
  if x.q = 2 then S
  else if S.1 = false ∧ t.st ≤ x.v then (true, S.2 ++ [(x.t, u)])
  else if S.1 = true ∧ x.v < t.sp then (false, setE S.2 x.t) else S
def trTo (t : Trg) (u : Int) (l : List Smp) : Nat → Bool × List (Int × Int)
  | 0 => (false, [])
  | j + 1 => trs t u (trTo t u l j) (atS l j)
/-- What a frame makes of those joined so far. -/
def jnS (ap : Int) (out : List (Int × Int)) (f : Int × Int) : List (Int × Int) :=
  if out ≠ [] ∧ f.1 - (out.getD (out.length - 1) (0, 0)).2 < ap then setE out f.2 else out ++ [f]
def jnTo (ap : Int) (l : List (Int × Int)) : Nat → List (Int × Int)
  | 0 => []
  | j + 1 => jnS ap (jnTo ap l j) (atW l j)
/-- The frames of a trigger before a moment. -/
def frmL (t : Trg) (l : List Smp) (u : Int) : List (Int × Int) :=
  let r := (trTo t u l (posF l u)).2
  (jnTo t.jn r r.length).filter fun y => !decide (y.2 - y.1 < t.ls)
def frmE (t : Trg) (l : List Smp) (u : Int) : Int :=
  if trgErr t ≠ 0 then trgErr t else if serErr l ≠ 0 then serErr l else if inB u 0 345686400000 = false then 1 else if 2000 < (frmL t l u).length then 2 else 0
def frmR (t : Trg) (l : List Smp) (u : Int) : List (Int × Int) := if frmE t l u = 0 then frmL t l u else []

/-- Windows whose ends lie between 0 and u. -/
def InF (u : Int) (l : List (Int × Int)) : Prop := ∀ y ∈ l, (0 ≤ y.1 ∧ y.1 ≤ u) ∧ 0 ≤ y.2 ∧ y.2 ≤ u
theorem InF.nil (u : Int) : InF u [] := fun _ h => by cases h
theorem InF.snoc {u : Int} {l : List (Int × Int)} (h : InF u l) {y : Int × Int} (hy : (0 ≤ y.1 ∧ y.1 ≤ u) ∧ 0 ≤ y.2 ∧ y.2 ≤ u) : InF u (l ++ [y]) := by
  intro z hz
  rcases List.mem_append.1 hz with hz | hz
  · exact h z hz
  · rw [List.mem_singleton.1 hz]; exact hy
theorem getD_mem {l : List (Int × Int)} (h : 0 < l.length) : l.getD (l.length - 1) (0, 0) ∈ l := by
  rw [List.getD_eq_getElem?_getD, List.getElem?_eq_getElem (by omega)]
  exact List.getElem_mem _
theorem InF.setE {u : Int} {l : List (Int × Int)} (h : InF u l) {b : Int} (hb : 0 ≤ b ∧ b ≤ u) : InF u (setE l b) := by
  intro z hz
  unfold Go.Proofs.Ytjoknaglhahbaaa.setE at hz
  rcases List.mem_or_eq_of_mem_set hz with hz | rfl
  · exact h z hz
  · by_cases hl : 0 < l.length
    · exact ⟨(h _ (getD_mem hl)).1, hb⟩
    · have : l = [] := List.eq_nil_of_length_eq_zero (by omega)
      subst this
      simp at hz
theorem trTo_in (t : Trg) (u : Int) (l : List Smp) (hu : 0 ≤ u) (n : Nat) (hx : ∀ j, j < n → 0 ≤ (atS l j).t ∧ (atS l j).t ≤ u) : InF u (trTo t u l n).2 := by
  induction n with
  | zero => exact InF.nil u
  | succ n ih =>
    have h1 := ih fun j hj => hx j (by omega)
    have h2 := hx n (by omega)
    rw [show trTo t u l (n + 1) = trs t u (trTo t u l n) (atS l n) from rfl]
    unfold trs
    split
    · exact h1
    · split
      · exact h1.snoc ⟨h2, hu, Int.le_refl _⟩
      · split
        · exact h1.setE h2
        · exact h1
theorem trTo_len (t : Trg) (u : Int) (l : List Smp) (n : Nat) : (trTo t u l n).2.length ≤ n ∧ ((trTo t u l n).1 = true → 0 < (trTo t u l n).2.length) := by
  induction n with
  | zero => simp [trTo]
  | succ n ih =>
    rw [show trTo t u l (n + 1) = trs t u (trTo t u l n) (atS l n) from rfl]
    unfold trs
    split
    · exact ⟨by omega, ih.2⟩
    · split
      · simp; omega
      · split
        · simp [setE_len]; omega
        · exact ⟨by omega, ih.2⟩
theorem jnTo_in (ap u : Int) (l : List (Int × Int)) (hl : InF u l) (n : Nat) (hn : n ≤ l.length) : InF u (jnTo ap l n) := by
  induction n with
  | zero => exact InF.nil u
  | succ n ih =>
    have h1 := ih (by omega)
    have h2 : (0 ≤ (atW l n).1 ∧ (atW l n).1 ≤ u) ∧ 0 ≤ (atW l n).2 ∧ (atW l n).2 ≤ u := by
      rw [← atW_eq l n (by omega)]; exact hl _ (List.getElem_mem _)
    rw [show jnTo ap l (n + 1) = jnS ap (jnTo ap l n) (atW l n) from rfl]
    unfold jnS
    split
    · exact h1.setE h2.2
    · exact h1.snoc h2
theorem jnTo_len (ap : Int) (l : List (Int × Int)) (n : Nat) : (jnTo ap l n).length ≤ n := by
  induction n with
  | zero => simp [jnTo]
  | succ n ih =>
    rw [show jnTo ap l (n + 1) = jnS ap (jnTo ap l n) (atW l n) from rfl]
    unfold jnS
    split
    · simp [setE_len]; omega
    · simp; omega

/-- The row of windows, as the loops keep it. -/
structure StW (w1 : World) (o : Value) (out : List (Int × Int)) (w : World) : Prop where
  own : w.ownsRow w1.heap.size 40 2 o out.length (wdwCells out)
  bl : Below w1.heap.size w1 w
theorem StW.step {w1 w w' : World} {o : Value} {out : List (Int × Int)} (h : StW w1 o out w) (hb : Below w.heap.size w w') : StW w1 o out w' :=
  ⟨own_keep h.own fun b _ _ hh => hb.block b (lt_of_heap hh), h.bl.trans (hb.mono h.bl.size)⟩
theorem StW.alloc {w1 w : World} {o : Value} {out : List (Int × Int)} (h : StW w1 o out w) (x : Obj) : StW w1 o out (w.alloc x) := h.step ((Below.refl _ _).alloc (Nat.le_refl _) _)
theorem StW.drewN {w1 w : World} {o : Value} {out : List (Int × Int)} (h : StW w1 o out w) (m : Nat) : StW w1 o out (w.drewN m) :=
  h.step (show Below w.heap.size w (w.drewN m) from ⟨rfl, rfl, rfl, Nat.le_refl _, fun _ _ => rfl⟩)
theorem StW.grown {w1 w w' : World} {o o' : Value} {out : List (Int × Int)} (h : StW w1 o out w) (x : Int × Int) (hg : w.grownBy w' o.ownBlock) (ho : w'.ownsRow w1.heap.size 40 2 o' (out.length + 1) (wdwCells (out ++ [x]))) : StW w1 o' (out ++ [x]) w' :=
  ⟨by simpa using ho, h.bl.trans (below_grown h.own h.bl.size hg)⟩
theorem own_setE {W : World} {base g c n : Nat} {out : List (Int × Int)} (h : W.ownsRow base 40 2 (.slice (some ⟨g, 0, none⟩) n c) out.length (wdwCells out)) (hn : 0 < out.length) (m : Nat) (hm : m + 1 = out.length) (b : Int) :
    (W.setCell ⟨g, m * 2 + 1, none⟩ (.int .i64 b)).ownsRow base 40 2 (.slice (some ⟨g, 0, none⟩) n c) (setE out b).length (wdwCells (setE out b)) ∧ base ≤ g := by
  obtain ⟨g', cap, hv, hbg, hnc, hcm⟩ := own_form h hn
  simp only [Value.slice.injEq, Option.some.injEq, Addr.mk.injEq, and_true] at hv
  obtain ⟨rfl, rfl, rfl⟩ := hv
  obtain rfl : m = out.length - 1 := by omega
  have hm : out.length - 1 < out.length := by omega
  have hcs : (wdwCells out).set ((out.length - 1) * 2 + 1) (.int .i64 b) = wdwCells (setE out b) := by
    have h0 := wdwCells_set out (out.length - 1) hm (out[out.length - 1].1, b)
    have h1 := (wdwCells_get out (out.length - 1) hm).1
    obtain ⟨hlt2, h1⟩ := List.getElem?_eq_some_iff.1 h1
    unfold setE
    rw [show (out.getD (out.length - 1) (0, 0)) = out[out.length - 1] by simp [List.getD_eq_getElem?_getD, List.getElem?_eq_getElem hm], ← h0]
    congr 1
    rw [← h1, List.set_getElem_self]
  have hst := (h.stored ((out.length - 1) * 2 + 1) (.int .i64 b)).1
  rw [hcs] at hst
  exact ⟨by rw [setE_len]; exact hst, hbg⟩
theorem StW.setLast {w1 w : World} {g c n : Nat} {out : List (Int × Int)} (h : StW w1 (.slice (some ⟨g, 0, none⟩) n c) out w) (m : Nat) (hm : m + 1 = out.length) (b : Int) :
    StW w1 (.slice (some ⟨g, 0, none⟩) n c) (setE out b) (w.setCell ⟨g, m * 2 + 1, none⟩ (.int .i64 b)) := by
  obtain ⟨h1, h2⟩ := own_setE h.own (by omega) m hm b
  exact ⟨h1, h.bl.setCell (by simpa using h2) _⟩
end Go.Proofs.Ytjoknaglhahbaaa
