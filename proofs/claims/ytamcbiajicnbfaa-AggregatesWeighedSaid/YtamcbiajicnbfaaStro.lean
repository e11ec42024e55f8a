/- stretches (the reference), for a right series and a right window. -/
import Derived.Test.YtamcbiajicnbfaaStrv
import Derived.Test.YtamcbiajicnbfaaRns
import Derived.Test.YtamcbiajicnbfaaDist
import Derived.Deep.DeepCutAuto
namespace Go.Proofs.Ytamcbiajicnbfaa
open Go.RowKit
set_option linter.unusedVariables false
set_option linter.unusedSimpArgs false

structure SoK (w0 w1 : World) (f t : Int) (o : Value) (out : List Str) (w : World) : Prop where
  own : w.ownsRow w1.heap.size 192 5 o out.length (strCells out)
  bl : Below w1.heap.size w1 w
  bw : Blk w w0.heap.size 82 #[.int .i64 f, .int .i64 t]
theorem SoK.step {w0 w1 w w' : World} {f t : Int} {o : Value} {out : List Str} (h : SoK w0 w1 f t o out w) (hb : Below w.heap.size w w') : SoK w0 w1 f t o out w' :=
  ⟨own_keep h.own fun b _ _ hh => hb.block b (lt_of_heap hh), h.bl.trans (hb.mono h.bl.size), h.bw.below hb h.bw.lt⟩
theorem SoK.alloc {w0 w1 w : World} {f t : Int} {o : Value} {out : List Str} (h : SoK w0 w1 f t o out w) (x : Obj) : SoK w0 w1 f t o out (w.alloc x) := h.step ((Below.refl _ _).alloc (Nat.le_refl _) _)
theorem SoK.grown {w0 w1 w w' : World} {f t : Int} {o o' : Value} {out : List Str} (h : SoK w0 w1 f t o out w) (x : Str) (hB0 : w0.heap.size < w1.heap.size) (hg : w.grownBy w' o.ownBlock) (ho : w'.ownsRow w1.heap.size 192 5 o' (out.length + 1) (strCells (out ++ [x]))) : SoK w0 w1 f t o' (out ++ [x]) w' :=
  ⟨by simpa using ho, h.bl.trans (below_grown h.own h.bl.size hg), h.bw.below (below_grown h.own h.bl.size hg) hB0⟩

theorem own_base {w : World} {B B' : Nat} {e : TypeId} {size n : Nat} {v : Value} {xs : List Value} (h : w.ownsRow B e size v n xs) (hB : B' ≤ B) : w.ownsRow B' e size v n xs := by
  obtain ⟨h1, h2⟩ := h
  refine ⟨h1, ?_⟩
  rcases h2 with h2 | ⟨g, cap, cur, rfl, hb, rest⟩
  · exact .inl h2
  · exact .inr ⟨g, cap, cur, rfl, Nat.le_trans hB hb, rest⟩

set_option maxRecDepth 100000 in
set_option maxHeartbeats 4000000 in
theorem stretches_any (v : Value) (l : List Smp) (f t : Int) (w : World) (hR : RdS w 71 v l) (hS : serErr l = 0) (hW : 0 ≤ f ∧ f ≤ t ∧ t ≤ 345686400000) :
    Calls Try.prog 148 #[v, .agg #[.int .i64 f, .int .i64 t]] w fun e w' => ∃ vr, e = .returned vr ∧ w'.ownsRow w.heap.size 192 5 vr (strL l f t).length (strCells (strL l f t)) ∧ Below w.heap.size w w' := by
  have hB0 := Blk.new w 82 #[.int .i64 f, .int .i64 t]
  have hR1 : RdS _ 71 v l := Rd.alloc hR (.cells #[.int .i64 f, .int .i64 t] 82)
  have hbw : Below w.heap.size w (w.alloc (.cells #[.int .i64 f, .int .i64 t] 82)) := (Below.refl _ w).alloc (Nat.le_refl _) _
  have hsz : (w.alloc (.cells #[.int .i64 f, .int .i64 t] 82)).heap.size = w.heap.size + 1 := by simp
  have hlong := (serErr_good hS).1
  obtain ⟨pa, ca, rfl⟩ := hR.lenv
  go_enter Try.func148, Try.ntmps148
  go_upto_region 1 with fail
  generalize w.alloc (.cells #[.int .i64 f, .int .i64 t] 82) = w1 at *
  have hlt0 : w.heap.size < w1.heap.size := by omega
  have e0 := hB0.cell 0
  have e1 := hB0.cell 1
  have HR1 := Lib.hid hR1
  have HBW := Lib.hid hbw
  clear hR hR1 hbw hsz
  go_wp2_with fail
  go_loopw [5, 11] (fun o i wr => ∃ k : Nat, k ≤ l.length ∧ i = .int .i64 (k : Int) ∧ SoK w w1 f t o (strTo l f t k) wr) (fun _ i _ => l.length - (intOf i).toNat)
  case atStart => exact ⟨0, by omega, rfl, World.ownsRow_nil _ _ _ _, Below.refl _ _, hB0⟩
  case round =>
    obtain ⟨k, hk, rfl, hst⟩ := hrel
    by_cases hkl : k < l.length
    · have hRr := HR1.out.below hst.bl (Nat.le_refl _)
      obtain ⟨b, off, c, hv, hc1, hc2, hblt, hcell⟩ := RdS.at_ hRr (by omega)
      cases hv
      unfold maxLen at hc2
      obtain ⟨c0, c1, c2⟩ := hcell k hkl
      have hn1 := fun (h : k + 1 < l.length) => hcell (k + 1) h
      have hsn : strTo l f t (k + 1) = strTo l f t k ++ (if strA l f k < strB l t k then [⟨strA l f k, strB l t k, atS l k⟩] else []) := rfl
      have hAd : strA l f k = if (atS l k).t < f then f else (atS l k).t := rfl
      have hBd : strB l t k = if k + 1 < l.length ∧ (atS l (k + 1)).t < t then (atS l (k + 1)).t else t := rfl
      have hol := strTo_long l f t k
      have hvt := serErr_vt hS k
      have hvt1 := serErr_vt hS (k + 1)
      clear e0 e1
      have e0 := hst.bw.cell 0
      have e1 := hst.bw.cell 1
      have z1 := hst.bw.lt
      generalize strA l f k = A at *
      generalize strB l t k = B at *
      generalize atS l k = x at *
      generalize atS l (k + 1) = y at *
      have HSN := Lib.hid hsn
      have HBD := Lib.hid hBd
      have HN1 := Lib.hid hn1
      generalize strTo l f t k = out at *
      have hb5 : Below wr.heap.size wr ((wr.alloc (.cells #[.int .i64 x.t, .int .i64 x.v, .int .i64 x.q] 71)).alloc (.cells #[.int .i64 A, .int .i64 t] 82)) := ((Below.refl _ wr).alloc (Nat.le_refl _) _).alloc (by simp) _
      have bx5 : Blk ((wr.alloc (.cells #[.int .i64 x.t, .int .i64 x.v, .int .i64 x.q] 71)).alloc (.cells #[.int .i64 A, .int .i64 t] 82)) wr.heap.size 71 #[.int .i64 x.t, .int .i64 x.v, .int .i64 x.q] := (Blk.new wr _ _).alloc _
      have br5 : Blk ((wr.alloc (.cells #[.int .i64 x.t, .int .i64 x.v, .int .i64 x.q] 71)).alloc (.cells #[.int .i64 A, .int .i64 t] 82)) (wr.heap.size + 1) 82 #[.int .i64 A, .int .i64 t] := Blk.new1 _ _ _ _
      obtain ⟨p, hp⟩ : ∃ p : Nat, (k : Int) + 1 = (p : Int) := ⟨k + 1, by omega⟩
      have hpn : p = k + 1 := by omega
      rw [← hpn] at HN1 HBD
      clear hsn hBd hn1 hcell hRr hpn
      by_cases hA1 : x.t < f
      all_goals
        (first | rw [if_pos hA1] at hAd | rw [if_neg hA1] at hAd)
        have HAD := Lib.hid hAd
        rw [HAD.out] at hb5 bx5 br5
        clear hAd
        go_upto_if 28 with fail
        go_cut [] from 28 to 50 (fun wx => Blk wx wr.heap.size 71 #[.int .i64 x.t, .int .i64 x.v, .int .i64 x.q] ∧ Blk wx (wr.heap.size + 1) 82 #[.int .i64 A, .int .i64 B] ∧ Below wr.heap.size wr wx)
        case first =>
          by_cases hpl2 : p < l.length
          · obtain ⟨n1, n2, n3⟩ := HN1.out hpl2
            have hB1 : B = if y.t < t then y.t else t := by rw [HBD.out]; simp [hpl2]
            have q1 : (0 : Int) ≤ (p : Int) := by omega
            have q2 : (p : Int) < (l.length : Int) := by omega
            have f1 := br5.frozen 1
            have c4 := br5.cell 1
            generalize hw5 : (wr.alloc (.cells #[.int .i64 x.t, .int .i64 x.v, .int .i64 x.q] 71)).alloc (.cells #[.int .i64 _, .int .i64 t] 82) = w5 at *
            have n1' : w5.cell? ⟨b, off + p * 3, none⟩ = some (.int .i64 y.t) := (hb5.cell (p := ⟨b, off + p * 3, none⟩) hblt).trans n1
            have HB1 := Lib.hid hB1
            clear hB1
            go_wp2_with fail
            go_region
            all_goals go_wp2_with fail
            all_goals go_meet
            all_goals
              first
              | (have hB2 : B = y.t := by rw [HB1.out]; split <;> omega
                 rw [HAD.out, hB2]
                 exact ⟨(Below.heap_setCell _ _ _ _ (by simp)).trans bx5, blk_two br5 _, (hb5.setCell (by simp) _).drew⟩)
              | (have hB2 : B = t := by rw [HB1.out]; split <;> omega
                 rw [HAD.out, hB2]
                 exact ⟨(Below.heap_setCell _ _ _ _ (by simp)).trans bx5, blk_two br5 _, (hb5.setCell (by simp) _).drew⟩)
          · have hB1 : B = t := by rw [HBD.out]; simp [hpl2]
            have hpl3 : ¬ ((p : Int) < (l.length : Int)) := by omega
            have HB1 := Lib.hid hB1
            clear hB1
            go_wp2_with fail
            go_meet
            rw [HB1.out, HAD.out]
            exact ⟨bx5, br5, hb5⟩
        case rest =>
          obtain ⟨bx6, br6, hb6⟩ := hcut
          have hst6 := hst.step hb6
          have d0 := br6.cell 0
          have d1 := br6.cell 1
          have d2 := bx6.cell 0
          have d3 := bx6.cell 1
          have d4 := bx6.cell 2
          have z5 := hb6.size
          have HST6 := Lib.hid hst6
          have HSTA := Lib.hid (hst6.alloc (.cells #[.int .i64 A, .int .i64 B, .int .i64 x.t, .int .i64 x.v, .int .i64 x.q] 192))
          have z6 := hst6.bl.size
          clear hb5 bx5 br5 hb6 hst hst6 c0 c1 c2 e0 e1
          by_cases hab : A < B
          · go_wp2_with (at_builtin; go_loud (refine wpList_append_str rfl (.tmp 44) (.tmp 48) rfl w1.heap.size u5 out.length out rfl (by exact HSTA.out.own) wc.heap.size rfl ⟨A, B, x⟩ (by exact Blk.new _ _ _) (by omega) (by exact HSTA.out.bl.size) ?_); intro v1 wd hown1 hgrow1)
            have hkd := HSTA.out.grown ⟨A, B, x⟩ hlt0 hgrow1 hown1
            clear hown1 hgrow1
            go_wp2_with fail
            go_roundw
            case rel => exact ⟨k + 1, by omega, by go_num, by rw [HSN.out, if_pos hab]; exact hkd⟩
            case measure => simp [intOf]; omega
          · go_wp2_with fail
            go_roundw
            case rel => exact ⟨k + 1, by omega, by go_num, by rw [HSN.out, if_neg (by omega), List.append_nil]; exact HST6.out⟩
            case measure => simp [intOf]; omega
    · have hkE : k = l.length := by omega
      subst hkE
      go_wp2_with fail
      go_ret
      exact ⟨_, rfl, own_base hst.own (by omega), HBW.out.trans (hst.bl.mono (by omega))⟩
end Go.Proofs.Ytamcbiajicnbfaa
