/- The contracts of ASpan, AMoment and ALimit (package logmake): numbers within bounds. -/
import Derived.Test.YtdacdiigeainmaaDist
import Derived.Test.YtdacdiigeainmaaPick
import Derived.Deep.RegionWith
import Derived.Deep.DeepCutAuto
namespace Go.Proofs.Ytdacdiigeainmaa
open Go.RowKit
set_option linter.unusedVariables false
set_option linter.unusedSimpArgs false

set_option maxHeartbeats 400000 in
theorem pick_at (w : World) (b : Nat) (g : Nat) (L : List Int) (A : Option Addr) (cap k : Nat) (xs : List Int) (hS : Strm w g L A cap k) (hB : Blk w b 3 (xs.map (Value.int .i64)).toArray) (hg : b ≠ g) (hk : k ≤ 1000000000) (hx : 0 < xs.length ∧ xs.length ≤ 1000000) :
    Calls Try.prog 6 #[.pointer (some ⟨g, 0, none⟩), .slice (some ⟨b, 0, none⟩) xs.length xs.length] w fun e w' =>
      e = .returned (.int .i64 (pk xs L k)) ∧ Went w g L A cap (k + 1) w' := by
  have h1 := nxt_range L k xs.length (by omega)
  have hi : (nxt L k xs.length).toNat < xs.length := by omega
  have hbl := hB.lt
  have HB := Lib.hid hB
  have hcell : ∀ w', Went w g L A cap (k + 1) w' → w'.cell? ⟨b, (nxt L k xs.length).toNat, none⟩ = some (.int .i64 (pk xs L k)) := fun w' hw => by
    have h := HB.out.but hw.2 hg
    rw [h.cell]
    simp [pk, List.getD_eq_getElem?_getD, List.getElem?_eq_getElem hi]
  have HC := Lib.hid hcell
  clear hB hcell
  go_enter Try.func6, Try.ntmps6
  go_wp2_with (go_at_call 24; refine (next_went _ g L A cap k _ hS hk (by omega)).mono ?_; rintro e w' ⟨rfl, hw, hz⟩; have hcell := HC.out _ hw)
  go_ret
  exact ⟨rfl, hw⟩

theorem pick3_at (w : World) (b : Nat) (g : Nat) (L : List Int) (A : Option Addr) (cap k : Nat) (x y z : Int) (hS : Strm w g L A cap k) (hB : Blk w b 3 #[.int .i64 x, .int .i64 y, .int .i64 z]) (hg : b ≠ g) (hk : k ≤ 1000000000) :
    Calls Try.prog 6 #[.pointer (some ⟨g, 0, none⟩), .slice (some ⟨b, 0, none⟩) 3 3] w fun e w' =>
      e = .returned (.int .i64 (pk [x, y, z] L k)) ∧ Went w g L A cap (k + 1) w' :=
  pick_at w b g L A cap k [x, y, z] hS hB hg hk (by simp)
theorem blkNewE (w : World) (t : TypeId) (cs : Array Value) (b : Nat) (hb : b = w.heap.size) : Blk (w.alloc (.cells cs t)) b t cs := by subst hb; exact Blk.new w t cs

/-- What ASpan returns. -/
def SpanEnd (w : World) (g : Nat) (L : List Int) (A : Option Addr) (cap k : Nat) (e : Ending) (w' : World) : Prop :=
  ∃ (f t : Int) (k' : Nat), e = .returned (.agg #[.int .i64 f, .int .i64 t]) ∧ (-1000000000000 ≤ f ∧ f ≤ 1000000000000) ∧ (-1000000000000 ≤ t ∧ t ≤ 1000000000000) ∧ k' ≤ k + 5 ∧ Went w g L A cap k' w'

end Go.Proofs.Ytdacdiigeainmaa
