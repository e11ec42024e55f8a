/- The contracts of small functions of doors and exceptions: the program's, and the reference's. -/
import Derived.Test.YtdacdiigeainmaaOr
import Derived.Test.YtdacdiigeainmaaSer
import Derived.Deep.RegionWith
namespace Go.Proofs.Ytdacdiigeainmaa
open Go.RowKit
set_option linter.unusedVariables false
set_option linter.unusedSimpArgs false

theorem Blk.new2 (w : World) (o p : Obj) (t : TypeId) (cs : Array Value) : Blk (((w.alloc o).alloc p).alloc (.cells cs t)) (w.heap.size + 2) t cs := by
  have := Blk.new ((w.alloc o).alloc p) t cs
  rwa [World.size_alloc, World.size_alloc] at this
theorem own_low {w w' : World} {base : Nat} {e : TypeId} {size n : Nat} {v : Value} {xs : List Value} (h : w.ownsRow base e size v n xs)
    (hk : ∀ b, base ≤ b → b < w.heap.size → w'.heap[b]? = w.heap[b]?) : w'.ownsRow base e size v n xs := by
  obtain ⟨h1, h2⟩ := h
  refine ⟨h1, ?_⟩
  rcases h2 with h2 | ⟨g, cap, cur, rfl, hb, hh, hn, hm, hs, hx⟩
  · exact .inl h2
  · exact .inr ⟨g, cap, cur, rfl, hb, (hk g hb (lt_of_heap hh)).trans hh, hn, hm, hs, hx⟩
theorem Blk.setOther {w : World} {b : Nat} {t : TypeId} {cs : Array Value} (h : Blk w b t cs) {p : Addr} (hp : b ≠ p.block) (u : Value) : Blk (w.setCell p u) b t cs :=
  (Below.heap_setCell w p u b hp).trans h
theorem Blk.setOne {w : World} {b : Nat} {t : TypeId} {v : Value} (h : Blk w b t #[v]) (u : Value) : Blk (w.setCell ⟨b, 0, none⟩ u) b t #[u] := by
  unfold Blk at h ⊢
  simp [World.setCell, Array.getElem?_modify, h]
theorem Blk.no {w : World} {b : Nat} {t e : TypeId} {cs : Array Value} (h : Blk w b t cs) (he : t ≠ e) (cur : Array Value) (fr : Nat × Nat) : w.heap[b]? ≠ some (Obj.cells cur e fr) := by
  unfold Blk at h
  rw [h]
  intro hh
  injection hh with hh
  injection hh with _ hh
  exact he hh
theorem Blk.setSame {w : World} {b i : Nat} {t : TypeId} {cs : Array Value} (h : Blk w b t cs) (u : Value) : ∃ cs', Blk (w.setCell ⟨b, i, none⟩ u) b t cs' := by
  unfold Blk at h ⊢
  simp [World.setCell, Array.getElem?_modify, h]
theorem quiet_eq {P : Program} {f : FuncId} {args : Array Value} {w : World} {n : Nat} {v : Value}
    (h : Calls P f args (w.drewN n) fun e w' => e = .returned v ∧ w.drewN n = w') : Calls P f args (w.drewN n) fun e w'' => e = .returned v ∧ ∃ m, w'' = w.drewN m :=
  h.mono fun _ _ ⟨he, hm⟩ => ⟨he, n, hm.symm⟩

def dist (a b : Int) : Int := if b ≤ a then a - b else b - a
set_option maxHeartbeats 400000 in
theorem rin_any (n lo hi : Int) (w : World) : Calls Try.prog 26 #[.int .i64 n, .int .i64 lo, .int .i64 hi] w fun e w' => e = .returned (.bool (inB n lo hi)) ∧ w = w' := by
  by_cases h1 : lo ≤ n
  · by_cases h2 : n ≤ hi
    · go_enter Try.func26, Try.ntmps26
      go_wp2
      go_ret
      exact ⟨ret_bool (by simp [inB, h1, h2]), rfl⟩
    · go_enter Try.func26, Try.ntmps26
      go_wp2
      go_ret
      exact ⟨ret_bool (by simp [inB]; omega), rfl⟩
  · go_enter Try.func26, Try.ntmps26
    go_wp2
    go_ret
    exact ⟨ret_bool (by simp [inB]; omega), rfl⟩

def spanErr (n lo hi : Int) : Int := if inB n lo hi = true then 0 else 1
set_option maxHeartbeats 1000000 in
theorem spanFault_any (n lo hi : Int) (w : World) : Calls Try.prog 16 #[.int .i64 n, .int .i64 lo, .int .i64 hi] w fun e w' => e = .returned (.int .i64 (spanErr n lo hi)) ∧ w = w' := by
  have hfin : spanErr n lo hi = if inB n lo hi = true then 0 else 1 := rfl
  generalize spanErr n lo hi = E at *
  have HF := Lib.hid hfin
  clear hfin
  go_enter Try.func16, Try.ntmps16
  go_wp2_with fail
  refine (rin_any n lo hi _).mono ?_
  rintro e w' ⟨rfl, rfl⟩
  generalize inB n lo hi = B at *
  cases B
  · go_wp2_with fail
    go_ret
    exact ⟨ret_int (by rw [HF.out]; rfl), rfl⟩
  · go_wp2_with fail
    go_ret
    exact ⟨ret_int (by rw [HF.out]; rfl), rfl⟩

/-- The error of a door, and of an exception. -/
def doorErr (d m : Int) : Int := if inB d 0 2000000 = false then 1 else if inB m 1 34560000000 = false then 1 else 0
theorem doorErr_or (d m : Int) : orOf [spanErr d 0 2000000, spanErr m 1 34560000000] = doorErr d m := by
  unfold doorErr spanErr
  cases inB d 0 2000000 <;> cases inB m 1 34560000000 <;> simp [orOf]
theorem doorErr_ok {d m : Int} (h : doorErr d m = 0) : (0 ≤ d ∧ d ≤ 2000000) ∧ (1 ≤ m ∧ m ≤ 34560000000) := by
  unfold doorErr at h
  split at h
  · omega
  · split at h
    · omega
    · rename_i h1 h2
      exact ⟨by simpa [inB] using h1, by simpa [inB] using h2⟩
theorem Blk.drew {w : World} {b : Nat} {t : TypeId} {cs : Array Value} (h : Blk w b t cs) : Blk w.drew b t cs := h
theorem Blk.drewN {w : World} {b : Nat} {t : TypeId} {cs : Array Value} (h : Blk w b t cs) (m : Nat) : Blk (w.drewN m) b t cs := h

end Go.Proofs.Ytdacdiigeainmaa
