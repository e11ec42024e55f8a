/- The contract of Pick (package logmake): it returns one of the numbers that it is given. -/
import Derived.Test.YtefbkdbjfgccpaaStrm
namespace Go.Proofs.Ytefbkdbjfgccpaa
open Go.RowKit
set_option linter.unusedVariables false
set_option linter.unusedSimpArgs false

/-- What Pick returns. -/
def pk (xs : List Int) (L : List Int) (k : Nat) : Int := xs.getD (nxt L k xs.length).toNat 0

theorem pk_mem (xs : List Int) (L : List Int) (k : Nat) (h : xs ≠ []) : pk xs L k ∈ xs := by
  have h0 : 0 < xs.length := List.length_pos_iff.2 h
  have h1 := nxt_range L k xs.length (by omega)
  have h2 : (nxt L k xs.length).toNat < xs.length := by omega
  unfold pk
  rw [List.getD_eq_getElem?_getD, List.getElem?_eq_getElem h2]
  exact List.getElem_mem h2

theorem pick_cell {W w' : World} {g : Nat} {L : List Int} {A : Option Addr} {cap k b : Nat} {xs : List Int} (hw : Went W g L A cap (k + 1) w') (hb : W.heap[b]? = some (.cells (xs.map (Value.int .i64)).toArray 3 (0, 0)))
    (hsz : W.heap.size = b + 1) (hg : g < b) (hi : (nxt L k xs.length).toNat < xs.length) : w'.cell? ⟨b, (nxt L k xs.length).toNat, none⟩ = some (.int .i64 (pk xs L k)) := by
  have h := (hw.2.block b (by omega) (by omega)).trans hb
  simp only [World.cell?, h]
  simp [pk, List.getD_eq_getElem?_getD, List.getElem?_eq_getElem hi]

set_option maxHeartbeats 400000 in
theorem pick_new (w : World) (b : Nat) (g : Nat) (L : List Int) (A : Option Addr) (cap k : Nat) (xs : List Int) (hS : Strm w g L A cap k) (hbw : b = w.heap.size) (hk : k ≤ 1000000000) (hx : 0 < xs.length ∧ xs.length ≤ 1000000) :
    Calls Try.prog 5 #[.pointer (some ⟨g, 0, none⟩), .slice (some ⟨b, 0, none⟩) xs.length xs.length] (w.alloc (.cells (xs.map (Value.int .i64)).toArray 3)) fun e w' =>
      e = .returned (.int .i64 (pk xs L k)) ∧ Went w g L A cap (k + 1) w' := by
  subst hbw
  have hS' := hS.alloc (.cells (xs.map (Value.int .i64)).toArray 3)
  have h1 := nxt_range L k xs.length (by omega)
  have hg := hS.lt
  have hi : (nxt L k xs.length).toNat < xs.length := by omega
  have hb0 : (w.alloc (.cells (xs.map (Value.int .i64)).toArray 3)).heap[w.heap.size]? = some (.cells (xs.map (Value.int .i64)).toArray 3 (0, 0)) := heap_alloc_new w _
  have hsz : (w.alloc (.cells (xs.map (Value.int .i64)).toArray 3)).heap.size = w.heap.size + 1 := by simp
  have HB := Lib.hid hb0
  have HSZ := Lib.hid hsz
  clear hb0 hsz
  go_enter Try.func5, Try.ntmps5
  go_wp2_with (go_at_call 17; refine (next_went _ g L A cap k _ hS' hk (by omega)).mono ?_; rintro e w' ⟨rfl, hw, hz⟩; have hcell : w'.cell? ⟨w.heap.size, (nxt L k xs.length).toNat, none⟩ = some (.int .i64 (pk xs L k)) := pick_cell hw HB.out HSZ.out hg hi)
  go_ret
  exact ⟨rfl, hw.1, ((But.refl g w).alloc _).trans hw.2⟩
end Go.Proofs.Ytefbkdbjfgccpaa
