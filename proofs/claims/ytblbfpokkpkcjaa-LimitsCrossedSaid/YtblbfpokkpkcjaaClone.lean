/- The contracts of slices.Clone and slices.Equal at samples, and of the first error of some. -/
import Derived.Test.YtblbfpokkpkcjaaSer
import Derived.Lib.SliceRun
import Derived.Laws.StructEq
import Derived.Test.YtblbfpokkpkcjaaSame
namespace Go.Proofs.Ytblbfpokkpkcjaa
open Go.RowKit
set_option linter.unusedVariables false
set_option linter.unusedSimpArgs false

set_option maxRecDepth 100000 in
set_option maxHeartbeats 1000000 in
theorem clone_any (v : Value) (l : List Smp) (w : World) (hR : RdS w 71 v l) (hlong : l.length ≤ 100000000) :
    Calls Try.prog 191 #[v] w fun e w' => ∃ v', e = .returned v' ∧ w'.ownsRow w.heap.size 71 3 v' l.length (cellsOf l) ∧ Below w.heap.size w w' := by
  obtain ⟨i0, hi0, hz0, hz1, hz2⟩ := info_parts info_smp
  obtain ⟨hlen, a, c, rfl, hn1, hn2, hcell⟩ := hR
  have hnil := fun (w : World) => Lib.run_eql_slice_nil (P := Try.prog) w 32 71 a l.length c 0 0 Try.underlying32
  rcases a with _ | ad
  · have h0 : l.length = 0 := by
      rcases Nat.eq_zero_or_pos l.length with h | h
      · exact h
      · obtain ⟨_, _, _, _, h1, _⟩ := hcell h; cases h1
    obtain rfl := List.eq_nil_of_length_eq_zero h0
    clear hcell hnil
    have hnil := fun (w : World) => Lib.run_eql_slice_nil (P := Try.prog) w 32 71 none 0 c 0 0 Try.underlying32
    go_enter Try.func191, Try.ntmps191
    go_wp2_with fail
    go_ret
    exact ⟨_, rfl, World.ownsRow_nil _ _ _ _, Below.refl _ _⟩
  · have hnews : ∀ j u, (cellsOf l)[j]? = some u → w.cell? (ad.add j) = some u := by
      intro j u hu
      have hj : j < l.length * 3 := by
        rcases Nat.lt_or_ge j (l.length * 3) with h | h
        · exact h
        · rw [List.getElem?_eq_none (by rw [cellsOf_length]; exact h)] at hu; cases hu
      obtain ⟨b, off, cur, fr, h1, h2, h3⟩ := hcell (by omega)
      injection h1 with h1
      subst h1
      have e1 : (⟨b, off, none⟩ : Addr).add j = ⟨b, off + j, none⟩ := by unfold Addr.add; split <;> simp_all
      rw [e1]
      simp only [World.cell?, h2]
      simp
      rw [h3 j hj, hu]
    have hadb : 0 < l.length → ad.block < w.heap.size := fun h => by
      obtain ⟨b, off, cur, fr, h1, h2, h3⟩ := hcell h
      injection h1 with h1
      subst h1
      exact lt_of_heap h2
    clear hcell
    have HNEWS := Lib.hid hnews
    have HADB := Lib.hid hadb
    have HI := Lib.hid hi0
    have HLEN := Lib.hid hlen
    clear hnews hadb hlen
    go_enter Try.func191, Try.ntmps191
    go_wp2_with (at_builtin; go_loud (refine wpList_append_own _ rfl (.tmp 5) (.tmp 6) 32 rfl w.heap.size 71 i0 _ 3 24 Try.underlying32 hi0 hz0 hz1 hz2 rfl (by decide) (.slice (some ⟨w.heap.size, 0, none⟩) 0 0) 0 [] rfl (World.ownsRow_lit w #[] 0 (Nat.le_refl _) (by simp [maxLen]) rfl) ad l.length c (cellsOf l) rfl HLEN.out ?c1 (cellsOf_one l) ?c3 ?c4 ?c5 ?_))
    case c1 =>
      intro j u hu
      have hj : j < l.length * 3 := by
        rcases Nat.lt_or_ge j (l.length * 3) with h | h
        · exact h
        · rw [List.getElem?_eq_none (by rw [cellsOf_length]; exact h)] at hu; cases hu
      rw [World.cell?_alloc_lt _ _ _ (by rw [addr_add_block]; exact HADB.out (by omega))]
      exact HNEWS.out j u hu
    case c3 => simp only [maxLen]; omega
    case c4 => omega
    case c5 => simp
    intro v' w' hown hgrow _
    have hown' : w'.ownsRow w.heap.size 71 3 v' l.length (cellsOf l) := by simpa using hown
    have hb : Below w.heap.size w w' := ((Below.refl _ w).alloc (Nat.le_refl _) (.cells #[] 71)).trans ((Below.refl _ _).grown hgrow (by simp) (fun k hk => by simp [Value.ownBlock] at hk; omega))
    clear hown hgrow
    go_wp2_with fail
    go_ret
    exact ⟨_, rfl, hown', hb⟩
end Go.Proofs.Ytblbfpokkpkcjaa
