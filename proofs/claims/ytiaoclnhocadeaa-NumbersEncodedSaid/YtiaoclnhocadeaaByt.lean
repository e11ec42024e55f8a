/- Slices of bytes: append of one byte, of some; slices of bytes as lists; bytes.Equal. -/
import Derived.Deep.RegionLaw
import Derived.Deep.QuietTactic
import Derived.Laws.BytesArg
import Derived.Lib.AppendZeros
import Derived.Lib.Bytes
import Derived.Deep.AppendSrc
import Derived.Deep.Upon
import Derived.Test.YtiaoclnhocadeaaChk
import Derived.Test.YtiaoclnhocadeaaApp
namespace Go.Proofs.Ytiaoclnhocadeaa
open Go.RowKit
set_option linter.unusedVariables false
set_option linter.unusedSimpArgs false

theorem belN {B : Nat} {a w : World} (h : Below B a w) (m : Nat) : Below B a (w.drewN m) := ⟨h.os, h.tape, h.output, h.size, h.block⟩
theorem u8_size : (Try.prog.info? 5).map (fun i => (i.zero, i.size, i.bytes)) = some (some (.int .u8 0), 1, 1) := by kernel_rfl
/-- The row of bytes l is the call's own. -/
def OwnB (w : World) (base : Nat) (v : Value) (l : List Int) : Prop := w.ownsRow base 5 1 v l.length (l.map (Value.int .u8))
/-- A slice of bytes reads as l. -/
def RdB (w : World) (v : Value) (l : List Int) : Prop := Rd w 5 1 v l.length (l.map (Value.int .u8))
/-- They are bytes. -/
def IsB (l : List Int) : Prop := ∀ x ∈ l, 0 ≤ x ∧ x < 256
theorem IsB.nil : IsB [] := fun x hx => by simp at hx
theorem IsB.app {a b : List Int} (ha : IsB a) (hb : IsB b) : IsB (a ++ b) := by
  intro x hx
  rcases List.mem_append.mp hx with h | h
  · exact ha x h
  · exact hb x h
theorem IsB.one {x : Int} (h : 0 ≤ x ∧ x < 256) : IsB [x] := fun y hy => by simp at hy; subst hy; exact h
theorem IsB.getD {l : List Int} (h : IsB l) (i : Nat) : 0 ≤ l.getD i 0 ∧ l.getD i 0 < 256 := by
  rw [List.getD_eq_getElem?_getD]
  rcases Nat.lt_or_ge i l.length with hi | hi
  · rw [List.getElem?_eq_getElem hi]; exact h _ (List.getElem_mem hi)
  · rw [List.getElem?_eq_none hi]; simp

theorem OwnB.nil (w : World) (base : Nat) : OwnB w base (.slice none 0 0) [] := World.ownsRow_nil _ _ _ _
theorem OwnB.rd {w : World} {base : Nat} {v : Value} {l : List Int} (h : OwnB w base v l) : RdB w v l := Rd.of_own h
theorem OwnB.below {w w' : World} {base : Nat} {v : Value} {l : List Int} (h : OwnB w base v l) (hb : Below w.heap.size w w') : OwnB w' base v l :=
  own_keep h fun b _ _ hh => hb.block b (lt_of_heap hh)
theorem OwnB.alloc {w : World} {base : Nat} {v : Value} {l : List Int} (h : OwnB w base v l) (o : Obj) : OwnB (w.alloc o) base v l := h.below ((Below.refl _ _).alloc (Nat.le_refl _) _)
theorem OwnB.drewN {w : World} {base : Nat} {v : Value} {l : List Int} (h : OwnB w base v l) (m : Nat) : OwnB (w.drewN m) base v l := h
theorem OwnB.but {w w' : World} {g base : Nat} {L : List Int} {A : Option Addr} {cap k : Nat} (hS : Strm w g L A cap k) {v : Value} {l : List Int} (h : OwnB w base v l) (hb : But g w w') : OwnB w' base v l := own_but hS (by decide) h hb
theorem RdB.below {w w' : World} {v : Value} {l : List Int} {B : Nat} (h : RdB w v l) (hb : Below B w w') (hB : w.heap.size ≤ B) : RdB w' v l := Rd.below h (hb.mono hB)
theorem RdB.lenv {w : World} {v : Value} {l : List Int} (h : RdB w v l) : ∃ pa ca, v = .slice pa l.length ca ∧ l.length ≤ ca ∧ ca ≤ maxLen := by obtain ⟨_, pa, ca, rfl, h1, h2, _⟩ := h; exact ⟨pa, ca, rfl, h1, h2⟩
theorem RdB.nil (w : World) : RdB w (.slice none 0 0) [] := Rd.nil _ _ _
theorem RdB.cells {w : World} {v : Value} {l : List Int} (h : RdB w v l) (hn : 0 < l.length) :
    ∃ b off c, v = .slice (some ⟨b, off, none⟩) l.length c ∧ l.length ≤ c ∧ c ≤ maxLen ∧ b < w.heap.size ∧ ∀ i, i < l.length → w.cell? ⟨b, off + i, none⟩ = some (.int .u8 (l.getD i 0)) := by
  obtain ⟨b, off, c, hv, h2, h3, hlt, hc⟩ := Rd.cell h hn
  refine ⟨b, off, c, hv, h2, h3, hlt, fun i hi => ?_⟩
  rw [hc i (by omega)]
  simp [List.getD_eq_getElem?_getD, hi]

/-- append of one byte that lies alone in block b. -/
theorem wpList_append_byte {w : World} {ops : Array Oper} {rest : List Oper} {o : Oper} {a : Act} {Q : Exit → Act → World → Prop} (hgd : o.guard = none) (s x : Operand)
    (ho : o.op = .call { callee := .builtin .append, args := #[s, x], argTypes := #[49, 49] })
    (base : Nat) (v : Value) (l : List Int) (hs : a.eval s = v) (hown : OwnB w base v l) (b : Nat) (hx : a.eval x = .slice (some ⟨b, 0, none⟩) 1 1) (y : Int)
    (hb : Blk w b 5 #[.int .u8 y]) (hn : l.length ≤ 100000000) (hbase : base ≤ w.heap.size)
    (h : ∀ v' w', OwnB w' base v' (l ++ [y]) → Below base w w' → wpList Try.prog ops Q rest (a.put o.dst v') w') : wpList Try.prog ops Q (o :: rest) a w := by
  obtain ⟨i0, hi0, hz0, hz1, hz2⟩ := info_parts u8_size
  refine wpList_append_own w hgd s x 49 ho base 5 i0 _ 1 1 Try.underlying49 hi0 hz0 hz1 hz2 rfl (by decide) v l.length _ hs hown ⟨b, 0, none⟩ 1 1 [.int .u8 y] hx rfl ?_ ?_ ?_ ?_ hbase ?_
  · intro j u hu
    have hj : j = 0 := by
      rcases Nat.eq_zero_or_pos j with h | h
      · exact h
      · rw [List.getElem?_eq_none (by simp; omega)] at hu; cases hu
    subst hj
    have e1 : (⟨b, 0, none⟩ : Addr).add 0 = ⟨b, 0, none⟩ := rfl
    rw [e1, hb.cell 0, ← hu]
    rfl
  · intro u hu
    simp at hu
    subst hu; rfl
  · simp only [maxLen]; omega
  · omega
  · intro v' w' h1 h2 _
    refine h v' w' (by unfold OwnB; simpa using h1) ?_
    exact (Below.refl _ _).grown h2 hbase (fun k hk => (hown.lt k hk).1)

/-- append of some bytes. -/
theorem wpList_append_bytes {w : World} {ops : Array Oper} {rest : List Oper} {o : Oper} {a : Act} {Q : Exit → Act → World → Prop} (hgd : o.guard = none) (s x : Operand)
    (ho : o.op = .call { callee := .builtin .append, args := #[s, x], argTypes := #[49, 49] })
    (base : Nat) (v : Value) (l : List Int) (hs : a.eval s = v) (hown : OwnB w base v l) (vx : Value) (hx : a.eval x = vx) (l2 : List Int) (hr : RdB w vx l2)
    (hn : l.length ≤ 100000000) (hn2 : l2.length ≤ 100000000) (hbase : base ≤ w.heap.size)
    (h : ∀ v' w', OwnB w' base v' (l ++ l2) → Below base w w' → wpList Try.prog ops Q rest (a.put o.dst v') w') : wpList Try.prog ops Q (o :: rest) a w := by
  obtain ⟨i0, hi0, hz0, hz1, hz2⟩ := info_parts u8_size
  obtain ⟨hlen, ax, cx, rfl, hc1, hc2, hcell⟩ := hr
  rcases Nat.eq_zero_or_pos l2.length with h0 | h0
  · obtain rfl := List.eq_nil_of_length_eq_zero h0
    have hsrc : Src Try.prog i0.size 49 (.slice ax 0 cx) 0 [] w := by
      rcases ax with _ | ad
      · exact Src.ofNil w Try.underlying49 cx
      · exact Src.ofSlice w Try.underlying49 ad 0 cx [] (by simp) (by simp) (by simp)
    have hv : ∃ b c, v = .slice b l.length c ∧ l.length ≤ c := by
      rcases hown.2 with ⟨rfl, e0⟩ | ⟨g, cap, cur, rfl, _, _, hle, _⟩
      · have := hown.1; rw [e0] at this; simp at this
        exact ⟨none, 0, by rw [this]; rfl, by rw [this]; simp⟩
      · exact ⟨_, _, rfl, hle⟩
    obtain ⟨b, c, rfl, hle⟩ := hv
    refine Lib.wpList_append_run w hgd s x 49 49 ho _ _ hs hx _ _ (run_append_nothing w 49 49 o.type 5 i0 Try.underlying49 hi0 b l.length c hle _ hsrc) ?_
    exact h _ _ (by simpa using hown) (Below.refl _ _)
  · obtain ⟨b, off, cur, fr, rfl, hb, hcc⟩ := hcell h0
    refine wpList_append_own w hgd s x 49 ho base 5 i0 _ 1 1 Try.underlying49 hi0 hz0 hz1 hz2 rfl (by decide) v l.length _ hs hown ⟨b, off, none⟩ l2.length cx (l2.map (Value.int .u8)) hx hlen ?_ (fun u hu => by obtain ⟨x, _, rfl⟩ := List.mem_map.mp hu; rfl) ?_ ?_ hbase ?_
    · intro j u hu
      have hj : j < l2.length * 1 := by
        rcases Nat.lt_or_ge j (l2.length * 1) with hlt | hge
        · exact hlt
        · rw [List.getElem?_eq_none (by simpa using hge)] at hu; cases hu
      have e1 : (⟨b, off, none⟩ : Addr).add j = ⟨b, off + j, none⟩ := by unfold Addr.add; split <;> simp_all
      rw [e1]
      simp only [World.cell?, hb]
      simp
      rw [hcc j hj, hu]
    · simp only [maxLen]; omega
    · omega
    · intro v' w' h1 h2 _
      refine h v' w' (by unfold OwnB; simpa using h1) ?_
      exact (Below.refl _ _).grown h2 hbase (fun k hk => (hown.lt k hk).1)

theorem bytesOf_inj {xs ys : List Int} (hx : IsB xs) (hy : IsB ys) (h1 : Lib.bytesOf xs = Lib.bytesOf ys) : xs = ys := by
  unfold Lib.bytesOf at h1
  induction xs generalizing ys with
  | nil => cases ys with
    | nil => rfl
    | cons y ys => simp at h1
  | cons x xs ih => cases ys with
    | nil => simp at h1
    | cons y ys =>
      simp only [List.map_cons, List.cons.injEq] at h1
      obtain ⟨h2, h3⟩ := h1
      have hx0 := hx x (by simp)
      have hy0 := hy y (by simp)
      have h4 := congrArg UInt8.toNat h2
      simp at h4
      have : x = y := by omega
      rw [this, ih (fun z hz => hx z (by simp [hz])) (fun z hz => hy z (by simp [hz])) h3]
theorem RdB.conv {w : World} {v : Value} {l : List Int} (h : RdB w v l) : (convert 49 9 v).run Try.prog w = .ok (.string (strOfNums l)) w := by
  rcases Nat.eq_zero_or_pos l.length with h0 | h0
  · obtain rfl := List.eq_nil_of_length_eq_zero h0
    obtain ⟨_, a, c, rfl, _⟩ := h
    have h := run_convert_bytes_string (P := Try.prog) w 49 9 5 a 0 c Try.underlying49 Try.underlying5 Try.underlying9
    refine h.trans ?_
    cases a <;> simp [Conv.bytesToString, loadCells] <;> rfl
  · obtain ⟨b, off, c, rfl, _, _, _, hc⟩ := RdB.cells h h0
    exact run_convert_bytes_arg w 49 5 Try.underlying49 Try.underlying5 b off l.length c l rfl hc 9 Try.underlying9

set_option maxHeartbeats 1000000 in
theorem bytesEqual_any (v v' : Value) (l l' : List Int) (w : World) (hR : RdB w v l) (hR' : RdB w v' l') (hB : IsB l) (hB' : IsB l') :
    Calls Try.prog 24 #[v, v'] w fun e w' => e = .returned (.bool (decide (l = l'))) ∧ w = w' := by
  have c1 := hR.conv
  have c2 := hR'.conv
  have hd : ((strOfNums l).toList == (strOfNums l').toList) = decide (l = l') := by
    by_cases he : l = l'
    · subst he; simp
    · rw [decide_eq_false he]
      simp only [beq_eq_false_iff_ne, ne_eq]
      intro h
      rw [Lib.strOfNums_toList, Lib.strOfNums_toList] at h
      exact he (bytesOf_inj hB hB' h)
  have HD := Lib.hid hd
  clear hd hR hR' hB hB'
  go_enter Try.func24, Try.ntmps24
  go_wp2_with fail
  go_ret
  exact ⟨ret_bool HD.out, rfl⟩
end Go.Proofs.Ytiaoclnhocadeaa
