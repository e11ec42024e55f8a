/- The contract of the reference's ErrorOf, from that of offs. -/
import Derived.Test.YtgbnjbbjgkfefaaOffs
import Derived.Deep.RegionHeld3
namespace Go.Proofs.Ytgbnjbbjgkfefaa
open Go.RowKit
set_option linter.unusedVariables false
set_option linter.unusedSimpArgs false

theorem offL_at (l K : List Smp) (n i : Nat) (h : i < n) : (offL l K n)[i]? = some (offR l K i) := by simp [offL, h]
theorem hasL_at (l K : List Smp) (n i : Nat) (h : i < n) : (hasL l K n)[i]? = some (hasI l K i) := by simp [hasL, h]
theorem offL_len (l K : List Smp) (n : Nat) : (offL l K n).length = n := by simp [offL]
theorem offL_cells (l K : List Smp) (n i : Nat) (h : i < n) : (fracCells (offL l K n))[i * 2]? = some (.int .i64 (offR l K i).1) ∧ (fracCells (offL l K n))[i * 2 + 1]? = some (.int .i64 (offR l K i).2) := by
  have h1 := fracCells_get (offL l K n) i (by rw [offL_len]; exact h)
  have h2 := offL_at l K n i h
  rw [List.getElem?_eq_getElem (by rw [offL_len]; exact h)] at h2
  injection h2 with h2
  rw [h2] at h1
  exact h1

theorem cell_lt {w : World} {p : Addr} {v : Value} (h : w.cell? p = some v) : p.block < w.heap.size := World.block_lt_of_cell? w p h
/-- What ErrorOf returns. -/
def eoF (l K : List Smp) : Int × Int := if bst l K l.length < 0 then (0, 0) else offV l K (bst l K l.length).toNat
def eoI (l K : List Smp) : Int := if bst l K l.length < 0 then 0 else bst l K l.length
def eoB (l K : List Smp) : Bool := decide (0 ≤ bst l K l.length)

set_option maxRecDepth 100000 in
set_option maxHeartbeats 8000000 in
theorem errorOf_any (v vk : Value) (l : List Smp) (ks : List Int) (w : World) (hR : RdS w 71 v l) (hgood : keptErr l ks = 0)
    (hoffs : ∀ w0 : World, RdS w0 71 v l → RdI w0 vk ks → Calls Try.prog 94 #[v, vk] w0 fun e w' => ∃ fv hv, e = .returned (.tuple #[fv, hv]) ∧ w'.ownsRow w0.heap.size 57 2 fv l.length (fracCells (offL l (choOf l ks) l.length)) ∧ w'.ownsRow w0.heap.size 4 1 hv l.length ((hasL l (choOf l ks) l.length).map Value.bool) ∧ Below w0.heap.size w0 w')
    (hK : RdI w vk ks) :
    Calls Try.prog 39 #[v, vk] w fun e w' => e = .returned (.tuple #[.agg #[.int .i64 (eoF l (choOf l ks)).1, .int .i64 (eoF l (choOf l ks)).2], .int .i64 (eoI l (choOf l ks)), .bool (eoB l (choOf l ks))]) ∧ Below w.heap.size w w' := by
  have hlong := (serErr_good (kept_good hgood).1).1
  have hog := fun i hh => offV_good hgood i hh
  have hB0 := Blk.new w 57 #[.int .i64 0, .int .i64 0]
  have hof := hoffs (w.alloc (.cells #[.int .i64 0, .int .i64 0] 57)) (Rd.alloc hR _) (Rd.alloc hK _)
  generalize choOf l ks = K at *
  have hF : eoF l K = if bst l K l.length < 0 then (0, 0) else offV l K (bst l K l.length).toNat := rfl
  have hI : eoI l K = if bst l K l.length < 0 then 0 else bst l K l.length := rfl
  have hBB : eoB l K = decide (0 ≤ bst l K l.length) := rfl
  generalize eoF l K = F at *
  generalize eoI l K = I at *
  generalize eoB l K = EB at *
  have hbr := bst_range l K
  have hbh := bst_has l K
  have hbs : ∀ j, bst l K (j + 1) = if hasI l K j = true ∧ (bst l K j < 0 ∨ lessF (offV l K (bst l K j).toNat) (offV l K j) = true) then (j : Int) else bst l K j := fun j => rfl
  have HF := Lib.hid hF
  have HI := Lib.hid hI
  have HEB := Lib.hid hBB
  have HB0 := Lib.hid hB0
  have HOF := Lib.hid hof
  have HOG := Lib.hid hog
  have HBR := Lib.hid hbr
  have HBH := Lib.hid hbh
  have HBS := Lib.hid hbs
  clear hF hI hBB hB0 hof hog hbr hbh hbs hoffs hR hK hgood
  go_enter Try.func39, Try.ntmps39
  go_wp2_with fail
  refine HOF.out.mono ?_
  rintro e w1 ⟨fv, hv, rfl, hfo, hho, hb1⟩
  have hB1 := HB0.out.below hb1 (by simp)
  have hb01 : Below w.heap.size w w1 := ((Below.refl _ w).alloc (Nat.le_refl _) _).trans (hb1.mono (by simp))
  have hlt1 := hB1.lt
  have hfm : ∃ pf cf, fv = .slice pf l.length cf := by
    obtain ⟨_, h2⟩ := hfo
    rcases h2 with ⟨rfl, h3⟩ | ⟨g, cap, cur, rfl, _⟩
    · rw [h3]; exact ⟨_, _, rfl⟩
    · exact ⟨_, _, rfl⟩
  obtain ⟨pf, cf, rfl⟩ := hfm
  have HFO := Lib.hid hfo
  have HHO := Lib.hid hho
  have HB1 := Lib.hid hB1
  have HB01 := Lib.hid hb01
  clear hfo hho hB1 hb1 hb01
  go_wp2_with fail
  go_loopw [9, 19] (fun si i wr => ∃ j : Nat, j ≤ l.length ∧ i = .int .i64 (j : Int) ∧ si = .int .i64 (bst l K j) ∧ Below w1.heap.size w1 wr) (fun _ i _ => l.length - (intOf i).toNat)
  case atStart => exact ⟨0, by omega, rfl, rfl, Below.refl _ _⟩
  case round =>
    obtain ⟨j, hj, rfl, rfl, hwr⟩ := hrel
    by_cases hlt : j < l.length
    · have hfo := own_keep (w' := wr) HFO.out (fun b _ _ hh => hwr.block b (lt_of_heap hh))
      have hho := own_keep (w' := wr) HHO.out (fun b _ _ hh => hwr.block b (lt_of_heap hh))
      obtain ⟨gf, capf, hef, _, hf1, hf2⟩ := own_form hfo (by omega)
      cases hef
      obtain ⟨gh, caph, rfl, _, hh1, hh2⟩ := own_form hho (by omega)
      unfold maxLen at hf2 hh2
      obtain ⟨fc0, fc1⟩ := offL_cells l K l.length j hlt
      have a0 : wr.cell? ⟨gf, j * 2, none⟩ = some (.int .i64 (offR l K j).1) := by rw [hfo.cellAt _ (by omega)]; exact fc0
      have a1 : wr.cell? ⟨gf, j * 2 + 1, none⟩ = some (.int .i64 (offR l K j).2) := by rw [hfo.cellAt _ (by omega)]; exact fc1
      have h0 : wr.cell? ⟨gh, j, none⟩ = some (.bool (hasI l K j)) := by rw [hho.cellAt _ (by omega)]; simp [hasL, hlt]
      have hbj := HBR.out j
      have hst := HBS.out j
      have hofj : offR l K j = if hasI l K j = true then offV l K j else (0, 1) := rfl
      have hogj := HOG.out j
      have i1 : (0 : Int) ≤ (j : Int) := by omega
      have i2 : (j : Int) < (l.length : Int) := by omega
      have HST := Lib.hid hst
      have HWR := Lib.hid hwr
      by_cases hH : hasI l K j = true
      · obtain ⟨_, ho1, ho2⟩ := hogj hH
        rw [if_pos hH] at hofj
        rw [hofj] at a0 a1
        rw [hH] at h0
        by_cases hneg : bst l K j < 0
        · have hneg' : decide (bst l K j < 0) = true := by simpa using hneg
          have HB := Lib.hid (show bst l K (j + 1) = (j : Int) by rw [HST.out, if_pos ⟨hH, .inl hneg⟩])
          clear hst hneg hofj hogj hH hbj hwr hfo hho fc0 fc1 ho1 ho2
          generalize offV l K j = O at *
          generalize bst l K j = b1 at *
          go_wp2_with fail
          go_quiet (fail)
          go_wp2_with fail
          go_roundw
          case rel => exact ⟨j + 1, by omega, by go_num, by rw [HB.out], bdrewN HWR.out _⟩
          case measure => simp [intOf]; omega
        · have hneg' : decide (bst l K j < 0) = false := by simpa using hneg
          have hbz : ∃ z : Nat, bst l K j = (z : Int) ∧ z < l.length := ⟨(bst l K j).toNat, by omega, by omega⟩
          obtain ⟨z, hz, hzl⟩ := hbz
          have hhz := HBH.out j (by omega)
          rw [hz, Int.toNat_natCast] at hhz
          obtain ⟨_, hp1, hp2⟩ := HOG.out z hhz
          obtain ⟨gc0, gc1⟩ := offL_cells l K l.length z hzl
          have hofz : offR l K z = if hasI l K z = true then offV l K z else (0, 1) := rfl
          rw [if_pos hhz] at hofz
          rw [hofz] at gc0 gc1
          have b0 : wr.cell? ⟨gf, z * 2, none⟩ = some (.int .i64 (offV l K z).1) := by rw [hfo.cellAt _ (by omega)]; exact gc0
          have b1 : wr.cell? ⟨gf, z * 2 + 1, none⟩ = some (.int .i64 (offV l K z).2) := by rw [hfo.cellAt _ (by omega)]; exact gc1
          have hbx : bst l K (j + 1) = if lessF (offV l K z) (offV l K j) = true then (j : Int) else (z : Int) := by
            rw [HST.out, hz, Int.toNat_natCast]
            by_cases hlf : lessF (offV l K z) (offV l K j) = true
            · rw [if_pos hlf, if_pos ⟨hH, .inr hlf⟩]
            · rw [if_neg hlf, if_neg (fun h => h.2.elim (fun q => absurd q (by omega)) hlf)]
          have HBX := Lib.hid hbx
          rw [hz] at hneg' ⊢
          have i3 : (0 : Int) ≤ (z : Int) := by omega
          have i4 : (z : Int) < (l.length : Int) := by omega
          generalize offV l K j = O at *
          generalize offV l K z = OB at *
          have hn : ∃ a b c d : Nat, OB = ((a : Int), (b : Int)) ∧ O = ((c : Int), (d : Int)) := ⟨OB.1.toNat, OB.2.toNat, O.1.toNat, O.2.toNat, by ext <;> simp <;> omega, by ext <;> simp <;> omega⟩
          obtain ⟨na, nb, nc, nd, hOB, hO⟩ := hn
          have hls : ∀ w, Calls Try.prog 95 #[.agg #[.int .i64 OB.1, .int .i64 OB.2], .agg #[.int .i64 O.1, .int .i64 O.2]] w fun e w' => e = .returned (.bool (lessF OB O)) ∧ Below w.heap.size w w' := fun w => by
            have q1 : na ≤ 9223372036854775807 := by rw [hOB] at hp1; simp at hp1; omega
            have q2 : 0 < nb ∧ nb ≤ 9223372036854775807 := by rw [hOB] at hp2; simp at hp2; omega
            have q3 : nc ≤ 9223372036854775807 := by rw [hO] at ho1; simp at ho1; omega
            have q4 : 0 < nd ∧ nd ≤ 9223372036854775807 := by rw [hO] at ho2; simp at ho2; omega
            rw [hOB, hO, lessF_nat]
            exact lessThan_any na nb nc nd w q1 q2 q3 q4
          have HLS := Lib.hid hls
          have hgf : gf < wr.heap.size := cell_lt a0
          have hgh : gh < wr.heap.size := cell_lt h0
          have hat : ∀ wx, Below wr.heap.size wr wx → wx.cell? ⟨gh, j, none⟩ = some (.bool true) ∧ wx.cell? ⟨gf, z * 2, none⟩ = some (.int .i64 OB.1) ∧ wx.cell? ⟨gf, z * 2 + 1, none⟩ = some (.int .i64 OB.2) ∧ wx.cell? ⟨gf, j * 2, none⟩ = some (.int .i64 O.1) ∧ wx.cell? ⟨gf, j * 2 + 1, none⟩ = some (.int .i64 O.2) := fun wx hb =>
            ⟨(hb.cell (p := ⟨gh, j, none⟩) hgh).trans h0, (hb.cell (p := ⟨gf, z * 2, none⟩) hgf).trans b0, (hb.cell (p := ⟨gf, z * 2 + 1, none⟩) hgf).trans b1, (hb.cell (p := ⟨gf, j * 2, none⟩) hgf).trans a0, (hb.cell (p := ⟨gf, j * 2 + 1, none⟩) hgf).trans a1⟩
          have HAT := Lib.hid hat
          clear hat
          clear hst hneg hofj hogj hH hbj hwr hfo hho fc0 fc1 ho1 ho2 hz hhz hp1 hp2 gc0 gc1 hofz hbx hOB hO hls
          go_wp2_with fail
          go_region_held3 (fun w' => w'.cell? ⟨gh, j, none⟩ = some (.bool true) ∧ w'.cell? ⟨gf, z * 2, none⟩ = some (.int .i64 OB.1) ∧ w'.cell? ⟨gf, z * 2 + 1, none⟩ = some (.int .i64 OB.2) ∧ w'.cell? ⟨gf, j * 2, none⟩ = some (.int .i64 O.1) ∧ w'.cell? ⟨gf, j * 2 + 1, none⟩ = some (.int .i64 O.2))
            (first | exact ⟨h0, b0, b1, a0, a1⟩ | exact HAT.out _ hbk' | go_keep)
            (first | (go_at_call 95; refine (HLS.out _).mono ?_; rintro e wk ⟨rfl, hbk⟩; have hbk' : Below wr.heap.size wr wk := ⟨hbk.os, hbk.tape, hbk.output, hbk.size, hbk.block⟩; have hwk : Below w1.heap.size w1 wk := HWR.out.trans (Below.mono hbk' HWR.out.size); clear hbk))
          all_goals
            generalize lessF OB O = LB at *
            cases LB
            · have HB := Lib.hid (show bst l K (j + 1) = (z : Int) by rw [HBX.out, if_neg (by simp)])
              go_wp2_with fail
              go_roundw
              case rel => exact ⟨j + 1, by omega, by go_num, by rw [HB.out], hwk⟩
              case measure => simp [intOf]; omega
            · have HB := Lib.hid (show bst l K (j + 1) = (j : Int) by rw [HBX.out, if_pos rfl])
              go_wp2_with fail
              go_roundw
              case rel => exact ⟨j + 1, by omega, by go_num, by rw [HB.out], hwk⟩
              case measure => simp [intOf]; omega
      · have hH' : hasI l K j = false := by simpa using hH
        rw [hH'] at h0
        have HB := Lib.hid (show bst l K (j + 1) = bst l K j by rw [HST.out, if_neg (by rw [hH']; simp)])
        clear hst hofj hogj hH hH' hbj hwr hfo hho fc0 fc1 a0 a1
        generalize bst l K j = b1 at *
        go_wp2_with fail
        go_quiet (fail)
        go_wp2_with fail
        go_roundw
        case rel => exact ⟨j + 1, by omega, by go_num, by rw [HB.out], bdrewN HWR.out _⟩
        case measure => simp [intOf]; omega
    · obtain rfl : j = l.length := by omega
      have hbe := HB1.out.below hwr hlt1
      have hbl : Below w.heap.size w wr := HB01.out.trans (hwr.mono HB01.out.size)
      have r0 := hbe.cell 0
      have r1 := hbe.cell 1
      have g0 := hbe.frozen 0
      have g1 := hbe.frozen 1
      have hbr := HBR.out l.length
      by_cases hneg : bst l K l.length < 0
      · have hneg' : decide (bst l K l.length < 0) = true := by simpa using hneg
        have H3 := Lib.hid (show F = (0, 0) ∧ I = 0 ∧ EB = false by rw [HF.out, HI.out, HEB.out, if_pos hneg, if_pos hneg]; exact ⟨rfl, rfl, decide_eq_false (by omega)⟩)
        clear hneg hbe hbr
        generalize bst l K l.length = bb at *
        go_wp2_with fail
        refine bodyPost_ret (v := .tuple #[.agg #[.int .i64 0, .int .i64 0], .int .i64 0, .bool false]) (by simp [results, Try.results39, go_sem, r0, r1]) rfl ⟨by rw [H3.out.1, H3.out.2.1, H3.out.2.2], ?_⟩
        exact hbl.trans (by (repeat (refine Below.setCell ?_ (by exact Nat.le_refl _) _)); exact Below.refl _ _)
      · have hneg' : decide (bst l K l.length < 0) = false := by simpa using hneg
        have H3 := Lib.hid (show F = offV l K (bst l K l.length).toNat ∧ I = bst l K l.length ∧ EB = true by rw [HF.out, HI.out, HEB.out, if_neg hneg, if_neg hneg]; exact ⟨rfl, rfl, decide_eq_true (by omega)⟩)
        have hbz : ∃ z : Nat, bst l K l.length = (z : Int) ∧ z < l.length := ⟨(bst l K l.length).toNat, by omega, by omega⟩
        obtain ⟨z, hz, hzl⟩ := hbz
        have hhz := HBH.out l.length (by omega)
        have hfo := own_keep (w' := wr) HFO.out (fun b _ _ hh => hwr.block b (lt_of_heap hh))
        obtain ⟨gf, capf, hef, _, hf1, hf2⟩ := own_form hfo (by omega)
        cases hef
        unfold maxLen at hf2
        rw [hz, Int.toNat_natCast] at hhz
        obtain ⟨gc0, gc1⟩ := offL_cells l K l.length z hzl
        have hofz : offR l K z = if hasI l K z = true then offV l K z else (0, 1) := rfl
        rw [if_pos hhz] at hofz
        rw [hofz] at gc0 gc1
        have b0 : wr.cell? ⟨gf, z * 2, none⟩ = some (.int .i64 (offV l K z).1) := by rw [hfo.cellAt _ (by omega)]; exact gc0
        have b1 : wr.cell? ⟨gf, z * 2 + 1, none⟩ = some (.int .i64 (offV l K z).2) := by rw [hfo.cellAt _ (by omega)]; exact gc1
        have i3 : (0 : Int) ≤ (z : Int) := by omega
        have i4 : (z : Int) < (l.length : Int) := by omega
        have H4 := Lib.hid (show F = offV l K z ∧ I = (z : Int) ∧ EB = true by rw [H3.out.1, H3.out.2.1, H3.out.2.2, hz, Int.toNat_natCast]; exact ⟨rfl, rfl, rfl⟩)
        rw [hz] at hneg' ⊢
        generalize offV l K z = OB at *
        clear hneg hbe hbr hz hhz hfo gc0 gc1 hofz H3
        go_wp2_with fail
        refine bodyPost_ret (v := .tuple #[.agg #[.int .i64 OB.1, .int .i64 OB.2], .int .i64 (z : Int), .bool true]) (by simp [results, Try.results39, go_sem, r0, r1]) rfl ⟨by rw [H4.out.1, H4.out.2.1, H4.out.2.2], ?_⟩
        exact hbl.trans (by (repeat (refine Below.setCell ?_ (by exact Nat.le_refl _) _)); exact Below.refl _ _)
end Go.Proofs.Ytgbnjbbjgkfefaa
