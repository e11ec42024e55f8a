import Derived.Test.YtmcojidaimeijaaBf01
import Derived.Test.YtmcojidaimeijaaDist
import Derived.Deep.DeepCutAuto
import Derived.Test.YtmcojidaimeijaaRq05
import Derived.Test.YtmcojidaimeijaaWinb
import Derived.Test.YtmcojidaimeijaaAt
import Derived.Deep.RegionHeld3
/- The contract of TriggerOf (package logmake): four numbers within bounds. -/

namespace Go.Proofs.Ytmcojidaimeijaa
open Go.RowKit
set_option linter.unusedVariables false
set_option linter.unusedSimpArgs false

/-- How TriggerOf ends. -/
def TrgEnd (w : World) (g : Nat) (L : List Int) (A : Option Addr) (cap k : Nat) (e : Ending) (w' : World) : Prop :=
  ∃ (a b c d : Int) (k' : Nat), e = .returned (.agg #[.int .i64 a, .int .i64 b, .int .i64 c, .int .i64 d]) ∧ (-1099511627776 ≤ a ∧ a ≤ 1099511627776) ∧ (-1099511627776 ≤ b ∧ b ≤ 1099511627776) ∧ (-1099511627776 ≤ c ∧ c ≤ 1099511627776) ∧ (-1099511627776 ≤ d ∧ d ≤ 1099511627776) ∧ k' ≤ k + 12 ∧ Went w g L A cap k' w'

set_option maxHeartbeats 400000 in
/-- Pick, where the slice lies in a block of its own that is older. -/
theorem pick_blk (w : World) (b : Nat) (g : Nat) (L : List Int) (A : Option Addr) (cap k : Nat) (xs : List Int) (hS : Strm w g L A cap k) (hB : Blk w b 3 (xs.map (Value.int .i64)).toArray) (hbg : b ≠ g) (hk : k ≤ 1000000000) (hx : 0 < xs.length ∧ xs.length ≤ 1000000) :
    Calls Try.prog 63 #[.pointer (some ⟨g, 0, none⟩), .slice (some ⟨b, 0, none⟩) xs.length xs.length] w fun e w' =>
      e = .returned (.int .i64 (pk xs L k)) ∧ Went w g L A cap (k + 1) w' := by
  have h1 := nxt_range L k xs.length (by omega)
  have hg := hS.lt
  have hi : (nxt L k xs.length).toNat < xs.length := by omega
  have HB := Lib.hid hB
  clear hB
  go_enter Try.func63, Try.ntmps63
  go_wp2_with (go_at_call 41; refine (next_went _ g L A cap k _ hS hk (by omega)).mono ?_; rintro e w' ⟨rfl, hw, hz⟩; have hcell : w'.cell? ⟨b, (nxt L k xs.length).toNat, none⟩ = some (.int .i64 (pk xs L k)) := ((HB.out.but hw.2 (by omega)).cell _).trans (by simp [pk, List.getD_eq_getElem?_getD, List.getElem?_eq_getElem hi]))
  go_ret
  exact ⟨rfl, hw⟩

/-- What TriggerOf keeps. -/
structure TgK (w0 : World) (g : Nat) (L : List Int) (A : Option Addr) (cap : Nat) (R F : Nat) (a b c d : Int) (k : Nat) (W : World) : Prop where
  s : Strm W g L A cap k
  bt : But g w0 W
  r : Blk W R 93 #[.int .i64 0, .int .i64 0, .int .i64 0, .int .i64 0]
  f : Blk W F 93 #[.int .i64 a, .int .i64 b, .int .i64 c, .int .i64 d]
  hg : g < R
  hR : R < F
section
variable {w0 W W' : World} {g : Nat} {L : List Int} {A : Option Addr} {cap R F k k' : Nat} {a b c d : Int}
theorem TgK.went (h : TgK w0 g L A cap R F a b c d k W) (hw : Went W g L A cap k' W') : TgK w0 g L A cap R F a b c d k' W' :=
  have h1 := h.hg
  have h2 := h.hR
  ⟨hw.1, h.bt.trans hw.2, h.r.but hw.2 (by omega), h.f.but hw.2 (by omega), h1, h2⟩
theorem TgK.alloc (h : TgK w0 g L A cap R F a b c d k W) (o : Obj) : TgK w0 g L A cap R F a b c d k (W.alloc o) := ⟨h.s.alloc _, h.bt.alloc _, h.r.alloc _, h.f.alloc _, h.hg, h.hR⟩
theorem TgK.drew (h : TgK w0 g L A cap R F a b c d k W) : TgK w0 g L A cap R F a b c d k W.drew := ⟨h.s.drew, h.bt.drew, h.r, h.f, h.hg, h.hR⟩
end

set_option maxRecDepth 100000 in
set_option maxHeartbeats 4000000 in
theorem triggerOf_went (w : World) (g : Nat) (L : List Int) (A : Option Addr) (cap k : Nat) (hS : Strm w g L A cap k) (hk : k ≤ 800000000) :
    Calls Try.prog 45 #[.pointer (some ⟨g, 0, none⟩)] w (TrgEnd w g L A cap k) := by
  have hlt0 := hS.lt
  have hB := Blk.new w 93 #[.int .i64 0, .int .i64 0, .int .i64 0, .int .i64 0]
  have HB := Lib.hid hB
  clear hB
  go_enter Try.func45, Try.ntmps45
  go_wp2_with fail
  refine (pick_new _ _ g L A cap k [3, 5, 8] (hS.alloc _) (by simp) (by omega) (by simp)).mono ?_
  rintro e w1 ⟨rfl, hw1⟩
  have hm1 := pk_mem [3, 5, 8] L k (by simp)
  simp only [List.mem_cons, List.not_mem_nil, or_false] at hm1
  generalize pk [3, 5, 8] L k = a at *
  have ha : 0 ≤ a ∧ a ≤ 1000 := by omega
  clear hm1
  go_wp2_with fail
  refine (pick_new _ _ g L A cap (k + 1) [0, 0, 2, 4] hw1.1 rfl (by omega) (by simp)).mono ?_
  rintro e w2 ⟨rfl, hw2⟩
  have hm2 := pk_mem [0, 0, 2, 4] L (k + 1) (by simp)
  simp only [List.mem_cons, List.not_mem_nil, or_false] at hm2
  generalize pk [0, 0, 2, 4] L (k + 1) = b0 at *
  have hb0 : 0 ≤ b0 ∧ b0 ≤ 1000 := by omega
  clear hm2
  obtain ⟨b, hbe⟩ : ∃ b, b = a - b0 := ⟨_, rfl⟩
  have hwb : IntKind.i64.wrap (a - b0) = b := by rw [hbe]; exact IntWalk.i64_in _ (by omega)
  have hbb : -1000 ≤ b ∧ b ≤ 1000 := by omega
  have HBE := Lib.hid hbe
  clear hbe
  go_wp2_with fail
  refine (pick_new _ _ g L A cap (k + 2) [0, 0, 3, 12] hw2.1 rfl (by omega) (by simp)).mono ?_
  rintro e w3 ⟨rfl, hw3⟩
  have hm3 := pk_mem [0, 0, 3, 12] L (k + 2) (by simp)
  simp only [List.mem_cons, List.not_mem_nil, or_false] at hm3
  generalize pk [0, 0, 3, 12] L (k + 2) = c at *
  have hc : 0 ≤ c ∧ c ≤ 1000 := by omega
  clear hm3
  go_wp2_with fail
  refine (pick_new _ _ g L A cap (k + 3) [0, 0, 5, 20] hw3.1 rfl (by omega) (by simp)).mono ?_
  rintro e w4 ⟨rfl, hw4⟩
  have hm4 := pk_mem [0, 0, 5, 20] L (k + 3) (by simp)
  simp only [List.mem_cons, List.not_mem_nil, or_false] at hm4
  generalize pk [0, 0, 5, 20] L (k + 3) = d at *
  have hd : 0 ≤ d ∧ d ≤ 1000 := by omega
  clear hm4
  have hg4 : But g w w4 := ((But.refl g w).alloc _).trans (hw1.2.trans (hw2.2.trans (hw3.2.trans hw4.2)))
  have hr4 : Blk w4 w.heap.size 93 #[.int .i64 0, .int .i64 0, .int .i64 0, .int .i64 0] := (((HB.out.but hw1.2 (by omega)).but hw2.2 (by omega)).but hw3.2 (by omega)).but hw4.2 (by omega)
  have hs4 := hw4.1
  have hlt4 := hr4.lt
  have hf4 := Blk.new w4 93 #[.int .i64 a, .int .i64 b, .int .i64 c, .int .i64 d]
  have HR4 := Lib.hid hr4
  have HF4 := Lib.hid hf4
  clear hw1 hw2 hw3 hw4 hr4 hf4
  go_wp2_with fail
  refine (flip_went _ g L A cap (k + 4) 15 (hs4.alloc _) (by omega) (by omega)).mono ?_
  rintro e w5 ⟨rfl, hw5, hz5⟩
  clear hz5
  have hr5 : Blk w5 w.heap.size 93 #[.int .i64 0, .int .i64 0, .int .i64 0, .int .i64 0] := (HR4.out.alloc _).but hw5.2 (by omega)
  have hf5 : Blk w5 w4.heap.size 93 #[.int .i64 a, .int .i64 b, .int .i64 c, .int .i64 d] := HF4.out.but hw5.2 (Nat.ne_of_gt (Nat.lt_trans hlt0 hlt4))
  have hg5 : But g w w5 := (hg4.alloc _).trans hw5.2
  have hs5 := hw5.1
  clear hw5 hg4 hs4
  have hne : ¬ w4.heap.size = w.heap.size := by omega
  have hne' : ¬ w.heap.size = w4.heap.size := by omega
  by_cases hN : nxt L (k + 4) 15 = 0
  · have hN' : (nxt L (k + 4) 15 == 0) = true := by simpa using hN
    clear hN
    have hk5 : TgK w g L A cap w.heap.size w4.heap.size a b c d (k + 5) w5 := ⟨hs5, hg5, hr5, hf5, hlt0, hlt4⟩
    have HPK := Lib.hid (fun (W : World) (B : Nat) (hS : Strm W g L A cap (k + 7)) (hB : Blk W B 3 #[.int .i64 b, .int .i64 9]) (hne : B ≠ g) =>
      (show Calls Try.prog 63 #[.pointer (some ⟨g, 0, none⟩), .slice (some ⟨B, 0, none⟩) 2 2] W fun e w' => e = .returned (.int .i64 (pk [b, 9] L (k + 7))) ∧ Went W g L A cap (k + 8) w' from
        pick_blk W B g L A cap (k + 7) [b, 9] hS hB hne (by omega) (by simp)))
    have hpm := pk_mem [b, 9] L (k + 7) (by simp)
    simp only [List.mem_cons, List.not_mem_nil, or_false] at hpm
    have hpb : -1000 ≤ pk [b, 9] L (k + 7) ∧ pk [b, 9] L (k + 7) ≤ 1000 := by omega
    generalize pk [b, 9] L (k + 7) = y at *
    have HO1 := Lib.hid (fun W (hS : Strm W g L A cap (k + 5)) => odd_went W g L A cap (k + 5) (-1000000) 1000000 hS (by omega) (by omega) (by omega) (by omega))
    have HO2 := Lib.hid (fun W K (hS : Strm W g L A cap K) (hK : K ≤ k + 20) => odd_went W g L A cap K 0 86400000 hS (by omega) (by omega) (by omega) (by omega))
    have d1 := hf5.cell 1
    clear hpm hr5 hf5 hg5 hs5
    have z5 := hk5.bt.size
    go_upto_region 4 with fail
    go_region_with (first
      | (go_at_call 65; (with_reducible refine (HO1.out _ ?_).mono ?_); (focus (first | exact hk5.s | exact hk5.drew.s | exact (hk5.drew.alloc _).s; done)); rintro e w6 ⟨x1, rfl, hx1, hq6⟩; have hk6 := TgK.went (by first | exact hk5 | exact hk5.drew | exact hk5.drew.alloc _) hq6; have e1 := hk6.f.cell 1; have z6 := hk6.bt.size)
      | (go_at_call 63; (with_reducible refine (HPK.out _ _ ?_ ?_ ?_).mono ?_); (focus (first | exact hk6.s | exact (hk6.alloc _).s; done)); (focus (first | exact Blk.new _ _ _ | exact (Blk.new w5.drew _ _).but hq6.2 (by show w5.heap.size ≠ g; omega); done)); (focus (first | omega | (show w5.heap.size ≠ g; omega); done)); rintro e w7 ⟨rfl, hq7⟩; have hk7 := TgK.went (by first | exact hk6 | exact hk6.alloc _) hq7)
      | (go_at_call 65; (with_reducible refine (HO2.out _ (k + 8) ?_ ?_).mono ?_); (focus (exact hk7.s; done)); (focus (omega; done)); rintro e w8 ⟨x2, rfl, hx2, hq8⟩; have hk8 := TgK.went hk7 hq8)
      | (go_at_call 65; (with_reducible refine (HO2.out _ (k + 10) ?_ ?_).mono ?_); (focus (exact hk8.s; done)); (focus (omega; done)); rintro e w9 ⟨x3, rfl, hx3, hq9⟩; have hk9 := TgK.went hk8 hq9; have c0 := hk9.r.cell 0; have c1 := hk9.r.cell 1; have c2 := hk9.r.cell 2; have c3 := hk9.r.cell 3; have d0 := hk9.f.cell 0; have d1 := hk9.f.cell 1; have d2 := hk9.f.cell 2; have d3 := hk9.f.cell 3; have fr0 := hk9.r.frozen 0; have fr1 := hk9.r.frozen 1; have fr2 := hk9.r.frozen 2; have fr3 := hk9.r.frozen 3; have fs0 := hk9.f.frozen 0; have fs1 := hk9.f.frozen 1; have fs2 := hk9.f.frozen 2; have fs3 := hk9.f.frozen 3))
    all_goals
      have hw9 : Went w g L A cap (k + 12) w9 := ⟨hk9.s, hk9.bt⟩
      clear hk5 hk6 hk7 hk8 hk9 hq6 hq7 hq8 hq9 e1
      go_wp2_with fail
      refine bodyPost_ret (v := .agg #[.int .i64 x1, .int .i64 y, .int .i64 x2, .int .i64 x3]) (by simp [results, Try.results45, go_sem, c0, c1, c2, c3, d0, d1, d2, d3, hne, hne']) rfl ⟨x1, y, x2, x3, k + 12, rfl, hx1, by omega, hx2, hx3, by omega, ?_⟩
      exact hw9.below hlt0 (by (repeat (refine Below.setCell ?_ (by first | exact Nat.le_refl _ | exact Nat.le_of_lt hlt4) _)); exact Below.refl _ _)
  · have hN' : (nxt L (k + 4) 15 == 0) = false := by simpa using hN
    clear hN
    have c0 := hr5.cell 0
    have c1 := hr5.cell 1
    have c2 := hr5.cell 2
    have c3 := hr5.cell 3
    have d0 := hf5.cell 0
    have d1 := hf5.cell 1
    have d2 := hf5.cell 2
    have d3 := hf5.cell 3
    have fr0 := hr5.frozen 0
    have fr1 := hr5.frozen 1
    have fr2 := hr5.frozen 2
    have fr3 := hr5.frozen 3
    have hw5' : Went w g L A cap (k + 5) w5 := ⟨hs5, hg5⟩
    clear hr5 hf5 hg5 hs5
    go_wp2_with fail
    refine bodyPost_ret (v := .agg #[.int .i64 a, .int .i64 b, .int .i64 c, .int .i64 d]) (by simp [results, Try.results45, go_sem, c0, c1, c2, c3, d0, d1, d2, d3, hne, hne']) rfl ⟨a, b, c, d, k + 5, rfl, by omega, by omega, by omega, by omega, by omega, ?_⟩
    exact hw5'.below hlt0 (by (repeat (refine Below.setCell ?_ (by first | exact Nat.le_refl _ | exact Nat.le_of_lt hlt4) _)); exact Below.refl _ _)
end Go.Proofs.Ytmcojidaimeijaa

/- CheckFrames (package batch) finds nothing wrong with right frames. -/

namespace Go.Proofs.Ytmcojidaimeijaa
open Go.RowKit
set_option linter.unusedVariables false
set_option linter.unusedSimpArgs false

set_option maxHeartbeats 1000000 in
theorem lasting_ok (a b : Int) (w : World) (h : 0 ≤ a ∧ a < b ∧ b ≤ 345686400000) :
    Calls Try.prog 120 #[.agg #[.int .i64 a, .int .i64 b]] w fun e w' => e = .returned (.bool true) ∧ Below w.heap.size w w' := by
  have hb := (Below.refl w.heap.size w).alloc (Nat.le_refl _) (.cells #[.int .i64 a, .int .i64 b] 43)
  have hB := Blk.new w 43 #[.int .i64 a, .int .i64 b]
  have hW : winB a b = true := winB_true.2 ⟨by omega, by omega, by omega⟩
  have hlt : a < b := h.2.1
  have hd : decide (a < b) = true := decide_eq_true hlt
  go_enter Try.func120, Try.ntmps120
  go_upto_region 1 with fail
  generalize w.alloc (.cells #[.int .i64 a, .int .i64 b] 43) = w1 at *
  have c0 := hB.cell 0
  have c1 := hB.cell 1
  go_wp2_with fail
  refine (window_any a b _).mono ?_
  rintro e w2 ⟨rfl, hb2⟩
  rw [hW]
  have hB2 := hB.below hb2 hB.lt
  clear c0 c1
  have c0 := hB2.cell 0
  have c1 := hB2.cell 1
  go_wp2_with fail
  go_ret
  exact ⟨ret_bool (by first | rfl | exact hd | exact hd.symm), hb.trans (hb2.mono hb.size)⟩

set_option maxHeartbeats 1000000 in
theorem checkFrame_ok (a b f : Int) (w : World) (h : 0 ≤ a ∧ a < b ∧ b ≤ 345686400000) (hf : f ≤ a) :
    Calls Try.prog 98 #[.agg #[.int .i64 a, .int .i64 b], .int .i64 f] w fun e w' => e = .returned (.int .i64 0) ∧ Below w.heap.size w w' := by
  have hb := (Below.refl w.heap.size w).alloc (Nat.le_refl _) (.cells #[.int .i64 a, .int .i64 b] 43)
  have hB := Blk.new w 43 #[.int .i64 a, .int .i64 b]
  have HL := Lib.hid (fun W => lasting_ok a b W h)
  go_enter Try.func98, Try.ntmps98
  go_upto_region 1 with fail
  generalize w.alloc (.cells #[.int .i64 a, .int .i64 b] 43) = w1 at *
  have c0 := hB.cell 0
  have c1 := hB.cell 1
  go_wp2_with fail
  refine (HL.out _).mono ?_
  rintro e w2 ⟨rfl, hb2⟩
  have hB2 := hB.below hb2 hB.lt
  clear c0 c1
  have c0 := hB2.cell 0
  have c1 := hB2.cell 1
  go_wp2_with fail
  go_ret
  exact ⟨rfl, hb.trans (hb2.mono hb.size)⟩

/-- Where the frame before the j-th ends. -/
def endF (l : List (Int × Int)) : Nat → Int
  | 0 => 0
  | j + 1 => (atW l j).2

set_option maxRecDepth 100000 in
set_option maxHeartbeats 2000000 in
theorem checkFrames_ok (v : Value) (l : List (Int × Int)) (w : World) (hR : RdWdw w v l) (hlen : l.length ≤ 2000) (hg : ∀ y ∈ l, 0 ≤ y.1 ∧ y.1 < y.2 ∧ y.2 ≤ 345686400000) (ha : l.Pairwise fun a b => a.2 ≤ b.1) :
    Calls Try.prog 48 #[v] w fun e w' => e = .returned (.int .i64 0) ∧ Below w.heap.size w w' := by
  obtain ⟨pa, ca, rfl⟩ := hR.lenv
  have HR := Lib.hid hR
  have HG := Lib.hid (fun j (hj : j < l.length) => (show 0 ≤ (atW l j).1 ∧ (atW l j).1 < (atW l j).2 ∧ (atW l j).2 ≤ 345686400000 by rw [← atW_eq l j hj]; exact hg _ (List.getElem_mem _)))
  have HE := Lib.hid (fun j (hj : j < l.length) => (show endF l j ≤ (atW l j).1 by
    cases j with
    | zero => exact (HG.out 0 hj).1
    | succ j =>
      have := List.pairwise_iff_getElem.1 ha j (j + 1) (by omega) hj (by omega)
      rwa [atW_eq l j (by omega), atW_eq l (j + 1) hj] at this))
  have hl2 : (l.length : Int) ≤ 2000 := by omega
  clear hR hg ha
  go_enter Try.func48, Try.ntmps48
  go_wp2_with fail
  go_loopw [3, 12] (fun s3 i wr => ∃ j : Nat, j ≤ l.length ∧ i = .int .i64 (j : Int) ∧ s3 = .int .i64 (endF l j) ∧ Below w.heap.size w wr) (fun _ i _ => l.length - (intOf i).toNat)
  case atStart => exact ⟨0, by omega, rfl, rfl, Below.refl _ _⟩
  case round =>
    obtain ⟨j, hj, rfl, rfl, hbr⟩ := hrel
    by_cases hlt : j < l.length
    · have hRr : RdWdw wr _ l := Rd.below HR.out hbr
      obtain ⟨b, off, c, hv, hc1, hc2, hblt, hcell⟩ := RdWdw.at_ hRr (by omega)
      cases hv
      unfold maxLen at hc2
      obtain ⟨c0, c1⟩ := hcell j hlt
      have h1 := HG.out j hlt
      have h2 := HE.out j hlt
      have h3 : endF l (j + 1) = (atW l j).2 := rfl
      generalize endF l j = f at *
      generalize atW l j = y at *
      obtain ⟨ya, yb⟩ := y
      simp only at h1 h2 c0 c1
      have H3 := Lib.hid h3
      have HC := Lib.hid (fun W => checkFrame_ok ya yb f W h1 h2)
      have hB := Blk.new wr 43 #[.int .i64 ya, .int .i64 yb]
      have hb1 := hbr.alloc hbr.size (.cells #[.int .i64 ya, .int .i64 yb] 43)
      clear hcell hRr h3 hbr
      go_upto_region 7 with fail
      generalize wr.alloc (.cells #[.int .i64 ya, .int .i64 yb] 43) = wm at *
      generalize wr.heap.size = Z at *
      clear c0 c1
      have c0 := hB.cell 0
      have c1 := hB.cell 1
      go_wp2_with fail
      refine (HC.out _).mono ?_
      rintro e w2 ⟨rfl, hb2⟩
      have hB2 := hB.below hb2 hB.lt
      have hbz := hb1.trans (hb2.mono hb1.size)
      clear c0 c1 hB hb1 hb2
      have c0 := hB2.cell 0
      have c1 := hB2.cell 1
      go_wp2_with fail
      go_roundw
      case rel => exact ⟨j + 1, by omega, by go_num, by rw [H3.out], hbz⟩
      case measure => simp [intOf]; omega
    · obtain rfl : j = l.length := by omega
      go_wp2_with fail
      go_ret
      exact ⟨rfl, hbr⟩
end Go.Proofs.Ytmcojidaimeijaa

/- LimitFault (the reference): a limit is within bounds. -/

namespace Go.Proofs.Ytmcojidaimeijaa
open Go.RowKit
set_option linter.unusedVariables false
set_option linter.unusedSimpArgs false

theorem limitFault_any (n : Int) (w : World) : Calls Try.prog 91 #[.int .i64 n] w fun e w' => e = .returned (.int .i64 (if inB n (-1000000) 1000000 = false then 1 else 0)) ∧ w = w' := by
  have hsp : spanErr n (-1000000) 1000000 = if inB n (-1000000) 1000000 = false then 1 else 0 := by unfold spanErr; cases inB n (-1000000) 1000000 <;> rfl
  have hs := fun w => spanFault_any n (-1000000) 1000000 w
  rw [hsp] at hs
  clear hsp
  generalize (if inB n (-1000000) 1000000 = false then (1 : Int) else 0) = X at *
  go_enter Try.func91, Try.ntmps91
  go_wp2_with (go_at_call 67; refine (hs _).mono ?_; rintro e w' ⟨rfl, rfl⟩)
  go_ret
  exact ⟨rfl, rfl⟩
end Go.Proofs.Ytmcojidaimeijaa

/- TriggerFault (the reference) is CheckTrigger. -/

namespace Go.Proofs.Ytmcojidaimeijaa
open Go.RowKit
set_option linter.unusedVariables false
set_option linter.unusedSimpArgs false

set_option maxRecDepth 100000 in
set_option maxHeartbeats 4000000 in
theorem triggerFault_any (t : Trg) (w : World) : Calls Try.prog 46 #[.agg (trgCells t)] w fun e w' => e = .returned (.int .i64 (trgErr t)) ∧ Below w.heap.size w w' := by
  have hE : trgErr t = if inB t.st (-1000000) 1000000 = true ∧ inB t.sp (-1000000) 1000000 = true ∧ t.sp ≤ t.st ∧ inB t.jn 0 86400000 = true ∧ inB t.ls 0 86400000 = true then 0 else 1 := rfl
  obtain ⟨st, sp, jn, ls⟩ := t
  generalize trgErr ⟨st, sp, jn, ls⟩ = E at *
  simp only [trgCells] at hE ⊢
  have h1 := rin_any jn 0 86400000
  have h2 := rin_any ls 0 86400000
  have h3 := limitFault_any st
  have h4 := limitFault_any sp
  have hbw : Below w.heap.size w (w.alloc (.cells #[.int .i64 st, .int .i64 sp, .int .i64 jn, .int .i64 ls] 93)) := (Below.refl _ w).alloc (Nat.le_refl _) _
  have hi : ∀ b : Bool, (if b = false then (1 : Int) else 0) = 0 ↔ b = true := by intro b; cases b <;> simp
  cases ha : inB jn 0 86400000
  all_goals cases hb : inB ls 0 86400000
  all_goals cases hc : inB st (-1000000) 1000000
  all_goals cases hd : inB sp (-1000000) 1000000
  all_goals
    rw [ha] at h1
    rw [hb] at h2
    rw [hc] at h3
    rw [hd] at h4
    rw [ha, hb, hc, hd] at hE
    simp only [if_true, if_false, reduceCtorEq] at h3 h4
    have H1 := Lib.hid h1
    have H2 := Lib.hid h2
    have H3 := Lib.hid h3
    have H4 := Lib.hid h4
    have HE := Lib.hid hE
    clear h1 h2 h3 h4 hE ha hb hc hd hi
  all_goals by_cases hlt : st < sp
  all_goals
    go_enter Try.func46, Try.ntmps46
    go_wp2_with (first | (go_at_call 73; (with_reducible refine (H1.out _).mono ?_); rintro e w2 ⟨rfl, rfl⟩) | (go_at_call 73; (with_reducible refine (H2.out _).mono ?_); rintro e w2 ⟨rfl, rfl⟩) | (go_at_call 91; (with_reducible refine (H3.out _).mono ?_); rintro e w2 ⟨rfl, rfl⟩) | (go_at_call 91; (with_reducible refine (H4.out _).mono ?_); rintro e w2 ⟨rfl, rfl⟩))
    go_ret
    exact ⟨ret_int (by rw [HE.out]; simp; try omega), hbw⟩
end Go.Proofs.Ytmcojidaimeijaa

/- The contract of Curve (package logmake): it makes some samples, whose numbers are small; no more is asked of it. -/

namespace Go.Proofs.Ytmcojidaimeijaa
open Go.RowKit
set_option linter.unusedVariables false
set_option linter.unusedSimpArgs false

/-- The numbers of the samples are small. -/
def NearB (B : Int) (l : List Smp) : Prop := ∀ x ∈ l, (-B ≤ x.t ∧ x.t ≤ B) ∧ (-B ≤ x.v ∧ x.v ≤ B) ∧ (-B ≤ x.q ∧ x.q ≤ B)
def Near (l : List Smp) : Prop := NearB 2000000000000 l
theorem NearB.at_ {B : Int} {l : List Smp} (h : NearB B l) (i : Nat) (hi : i < l.length) : (-B ≤ (atS l i).t ∧ (atS l i).t ≤ B) ∧ (-B ≤ (atS l i).v ∧ (atS l i).v ≤ B) ∧ (-B ≤ (atS l i).q ∧ (atS l i).q ≤ B) := by
  rw [← atS_eq l i hi]; exact h _ (List.getElem_mem hi)
theorem Near.fit {l : List Smp} (h : Near l) : Fit l := fun i hi => by
  have := NearB.at_ h i hi
  omega
theorem NearB.mono {B C : Int} {l : List Smp} (h : NearB B l) (hBC : B ≤ C) : NearB C l := fun x hx => by have := h x hx; omega
theorem NearB.snoc {B : Int} {l : List Smp} (h : NearB B l) (x : Smp) (hx : (-B ≤ x.t ∧ x.t ≤ B) ∧ (-B ≤ x.v ∧ x.v ≤ B) ∧ (-B ≤ x.q ∧ x.q ≤ B)) : NearB B (l ++ [x]) := by
  intro y hy
  rcases List.mem_append.1 hy with hy | hy
  · exact h y hy
  · simp at hy; subst hy; exact hx
theorem NearB.set {B : Int} {l : List Smp} (h : NearB B l) (i : Nat) (x : Smp) (hx : (-2000000000000 ≤ x.t ∧ x.t ≤ 2000000000000) ∧ (-2000000000000 ≤ x.v ∧ x.v ≤ 2000000000000) ∧ (-2000000000000 ≤ x.q ∧ x.q ≤ 2000000000000)) (hB : B ≤ 2000000000000) : Near (l.set i x) := by
  intro y hy
  rcases List.mem_or_eq_of_mem_set hy with hy | hy
  · have := h y hy; omega
  · subst hy; exact hx
theorem cellsOf_setT (l : List Smp) (i : Nat) (h : i < l.length) (r : Int) : (cellsOf l).set (i * 3) (.int .i64 r) = cellsOf (l.set i ⟨r, (atS l i).v, (atS l i).q⟩) := by
  induction l generalizing i with
  | nil => simp at h
  | cons x l ih =>
    cases i with
    | zero => simp [Smp.cells, atS]
    | succ i =>
      have := ih i (by simpa using h)
      have e1 : atS (x :: l) (i + 1) = atS l i := rfl
      simp only [List.set_cons_succ, cellsOf_cons, e1]
      rw [← this, show (i + 1) * 3 = i * 3 + 3 by omega]
      simp [Smp.cells]
theorem cellsOf_setV (l : List Smp) (i : Nat) (h : i < l.length) (r : Int) : (cellsOf l).set (i * 3 + 1) (.int .i64 r) = cellsOf (l.set i ⟨(atS l i).t, r, (atS l i).q⟩) := by
  induction l generalizing i with
  | nil => simp at h
  | cons x l ih =>
    cases i with
    | zero => simp [Smp.cells, atS]
    | succ i =>
      have := ih i (by simpa using h)
      have e1 : atS (x :: l) (i + 1) = atS l i := rfl
      simp only [List.set_cons_succ, cellsOf_cons, e1]
      rw [← this, show (i + 1) * 3 + 1 = i * 3 + 1 + 3 by omega]
      simp [Smp.cells]
theorem cellsOf_setQ (l : List Smp) (i : Nat) (h : i < l.length) (r : Int) : (cellsOf l).set (i * 3 + 2) (.int .i64 r) = cellsOf (l.set i ⟨(atS l i).t, (atS l i).v, r⟩) := by
  induction l generalizing i with
  | nil => simp at h
  | cons x l ih =>
    cases i with
    | zero => simp [Smp.cells, atS]
    | succ i =>
      have := ih i (by simpa using h)
      have e1 : atS (x :: l) (i + 1) = atS l i := rfl
      simp only [List.set_cons_succ, cellsOf_cons, e1]
      rw [← this, show (i + 1) * 3 + 2 = i * 3 + 2 + 3 by omega]
      simp [Smp.cells]

/-- What is made at last. -/
def CurveEnd (w : World) (g : Nat) (L : List Int) (A : Option Addr) (cap k most : Nat) (v : Value) (w' : World) : Prop :=
  ∃ l k', w'.ownsRow w.heap.size 57 3 v l.length (cellsOf l) ∧ l.length ≤ most ∧ Near l ∧ k' ≤ k + 10 + 3 * most ∧ Went w g L A cap k' w'
theorem Went.setAt {w w1 : World} {g : Nat} {L : List Int} {A : Option Addr} {cap k : Nat} (hw : Went w g L A cap k w1) (hg : g < w.heap.size) {p : Addr} (hp : w.heap.size ≤ p.block) (u : Value) : Went w g L A cap k (w1.setCell p u) :=
  hw.below hg ((Below.refl w.heap.size w1).setCell hp u)

set_option maxRecDepth 100000 in
set_option maxHeartbeats 4000000 in
theorem curve_went (w : World) (g : Nat) (L : List Int) (A : Option Addr) (cap k most : Nat) (hS : Strm w g L A cap k) (hk : k ≤ 700000000) (hm : most ≤ 1000) :
    Calls Try.prog 49 #[.pointer (some ⟨g, 0, none⟩), .int .i64 (most : Int)] w fun e w' => ∃ v, e = .returned v ∧ CurveEnd w g L A cap k most v w' := by
  have hlt0 := hS.lt
  have hr := nxt_range L (k + 2) (most + 1) (by omega)
  have hn : (((nxt L (k + 2) (most + 1)).toNat : Nat) : Int) = 0 + nxt L (k + 2) ((most : Int) - 0 + 1) := by rw [show (most : Int) - 0 + 1 = (most : Int) + 1 from by omega]; omega
  have hN : (nxt L (k + 2) (most + 1)).toNat ≤ most := by omega
  generalize (nxt L (k + 2) (most + 1)).toNat = N at *
  have HN := Lib.hid hn
  clear hn hr
  go_enter Try.func49, Try.ntmps49
  go_wp2_with fail
  refine (pick_new _ _ g L A cap k [0, 0, 5, 40] hS rfl (by omega) (by simp)).mono ?_
  rintro e w1 ⟨rfl, hw1⟩
  have hT := pk_mem [0, 0, 5, 40] L k (by simp)
  simp only [List.mem_cons, List.not_mem_nil, or_false] at hT
  generalize pk [0, 0, 5, 40] L k = T at *
  have hT' : 0 ≤ T ∧ T ≤ 40 := by omega
  clear hT
  go_wp2_with fail
  refine (pick_new _ _ g L A cap (k + 1) [0, 5, 10, -3] hw1.1 rfl (by omega) (by simp)).mono ?_
  rintro e w2 ⟨rfl, hw2⟩
  have hV := pk_mem [0, 5, 10, -3] L (k + 1) (by simp)
  simp only [List.mem_cons, List.not_mem_nil, or_false] at hV
  generalize pk [0, 5, 10, -3] L (k + 1) = V at *
  have hV' : -3 ≤ V ∧ V ≤ 10 := by omega
  clear hV
  have hw2' : Went w g L A cap (k + 2) w2 := ⟨hw2.1, hw1.2.trans hw2.2⟩
  clear hw1 hw2
  go_wp2_with fail
  refine (range_went _ g L A cap (k + 2) 0 most hw2'.1 (by omega) (by omega) (by omega) (by omega)).mono ?_
  rintro e w3 ⟨rfl, hw3, hz3⟩
  rw [← HN.out]
  have hg3 : Went w g L A cap (k + 3 + 3 * 0) w3 := ⟨hw3.1, hw2'.2.trans hw3.2⟩
  clear hw2' hw3 hz3 HN
  go_wp2_with fail
  go_loopw [5, 6, 7, 19] (fun o st sv i wr => ∃ (j : Nat) (xs : List Smp) (t vv : Int), j ≤ N ∧ i = .int .i64 (j : Int) ∧ st = .int .i64 t ∧ sv = .int .i64 vv ∧ (0 ≤ t ∧ t ≤ 40 + 30 * (j : Int)) ∧ (-3 - 6 * (j : Int) ≤ vv ∧ vv ≤ 10 + 6 * (j : Int)) ∧ xs.length = j ∧ NearB 1000000000000 xs ∧ wr.ownsRow w.heap.size 57 3 o j (cellsOf xs) ∧ Went w g L A cap (k + 3 + 3 * j) wr)
    (fun _ _ _ i _ => N - (intOf i).toNat)
  case atStart => exact ⟨0, [], T, V, by omega, rfl, rfl, rfl, by omega, by omega, rfl, by intro x hx; simp at hx, World.ownsRow_nil _ _ _ _, hg3⟩
  case round =>
    obtain ⟨j, xs, t, vv, hj, rfl, rfl, rfl, ht, hv, hxl, hnear, hown, hwr⟩ := hrel
    have HXL := Lib.hid hxl
    have HNR := Lib.hid hnear
    clear hxl hnear
    have hszr := hwr.2.size
    by_cases hlt : j < N
    · go_wp2_with fail
      refine (pick_new _ _ g L A cap (k + 3 + 3 * j) [0, 0, 0, 0, 0, 1, 2] hwr.1 rfl (by omega) (by simp)).mono ?_
      rintro e wa ⟨rfl, hwa⟩
      have hQ := pk_mem [0, 0, 0, 0, 0, 1, 2] L (k + 3 + 3 * j) (by simp)
      simp only [List.mem_cons, List.not_mem_nil, or_false] at hQ
      generalize pk [0, 0, 0, 0, 0, 1, 2] L (k + 3 + 3 * j) = q at *
      have hQ' : 0 ≤ q ∧ q ≤ 2 := by omega
      have howna : wa.ownsRow w.heap.size 57 3 u5 j (cellsOf xs) := own_but hwr.1 (by decide) hown hwa.2
      have hwa' : Went w g L A cap (k + 3 + 3 * j + 1) wa := ⟨hwa.1, hwr.2.trans hwa.2⟩
      have hsza := hwa'.2.size
      clear hwa hown hwr hQ
      by_cases hq : q = 2
      · subst hq
        go_wp2_with (at_builtin; go_loud (refine wpList_append_smp rfl (.tmp 31) (.tmp 33) rfl w.heap.size u5 j xs rfl (by exact (howna.alloc _).alloc _) (wa.heap.size + 1) rfl ⟨t, 0, 2⟩ (by exact Blk.new1 _ _ _ _) (by omega) (by simp; omega) ?_); intro v1 wc hown1 hgrow1)
        have hwc : Went w g L A cap (k + 3 + 3 * j + 1) wc := hwa'.below hlt0 ((((Below.refl _ wa).alloc hsza _).alloc (by simp; omega) _).trans (below_grown ((howna.alloc _).alloc _) (by simp; omega) hgrow1))
        clear howna hgrow1 hwa'
        have hnr := HNR.out.snoc ⟨t, 0, 2⟩ ⟨by simp only; omega, by simp only; omega, by simp only; omega⟩
        have HNR1 := Lib.hid hnr
        clear hnr
        refine (pick_new _ _ g L A cap (k + 3 + 3 * j + 1) [1, 1, 2, 5, 10, 30] hwc.1 rfl (by omega) (by simp)).mono ?_
        rintro e wd ⟨rfl, hwd⟩
        have hA := pk_mem [1, 1, 2, 5, 10, 30] L (k + 3 + 3 * j + 1) (by simp)
        simp only [List.mem_cons, List.not_mem_nil, or_false] at hA
        generalize pk [1, 1, 2, 5, 10, 30] L (k + 3 + 3 * j + 1) = da at *
        have hA' : 1 ≤ da ∧ da ≤ 30 := by omega
        have hownd := own_but hwc.1 (by decide) hown1 hwd.2
        have hwd' : Went w g L A cap (k + 3 + 3 * j + 1 + 1) wd := ⟨hwd.1, hwc.2.trans hwd.2⟩
        clear hwc hwd hown1 hA
        go_wp2_with fail
        refine (pick_new _ _ g L A cap (k + 3 + 3 * j + 1 + 1) [0, 0, 1, 1, 2, -1, -1, -4, 6] hwd'.1 rfl (by omega) (by simp)).mono ?_
        rintro e we ⟨rfl, hwe⟩
        have hA := pk_mem [0, 0, 1, 1, 2, -1, -1, -4, 6] L (k + 3 + 3 * j + 1 + 1) (by simp)
        simp only [List.mem_cons, List.not_mem_nil, or_false] at hA
        generalize pk [0, 0, 1, 1, 2, -1, -1, -4, 6] L (k + 3 + 3 * j + 1 + 1) = db at *
        have hB' : -4 ≤ db ∧ db ≤ 6 := by omega
        have howne := own_but hwd'.1 (by decide) hownd hwe.2
        have hwe' : Went w g L A cap (k + 3 + 3 * (j + 1)) we := ⟨hwe.1, hwd'.2.trans hwe.2⟩
        clear hwd' hwe hownd hA
        go_wp2_with fail
        go_roundw
        case rel => exact ⟨j + 1, xs ++ [⟨t, 0, 2⟩], t + da, vv + db, by omega, by go_num, rfl, rfl, by omega, by omega, by rw [List.length_append, HXL.out]; rfl, HNR1.out, howne, hwe'⟩
        case measure => simp [intOf]; omega
      · have hq' : (q == 2) = false := by simpa using hq
        clear hq
        go_wp2_with (at_builtin; go_loud (refine wpList_append_smp rfl (.tmp 31) (.tmp 33) rfl w.heap.size u5 j xs rfl (by exact (howna.alloc _).alloc _) (wa.heap.size + 1) rfl ⟨t, vv, q⟩ (by exact Blk.new1 _ _ _ _) (by omega) (by simp; omega) ?_); intro v1 wc hown1 hgrow1)
        have hwc : Went w g L A cap (k + 3 + 3 * j + 1) wc := hwa'.below hlt0 ((((Below.refl _ wa).alloc hsza _).alloc (by simp; omega) _).trans (below_grown ((howna.alloc _).alloc _) (by simp; omega) hgrow1))
        clear howna hgrow1 hwa'
        have hnr := HNR.out.snoc ⟨t, vv, q⟩ ⟨by simp only; omega, by simp only; omega, by simp only; omega⟩
        have HNR1 := Lib.hid hnr
        clear hnr
        refine (pick_new _ _ g L A cap (k + 3 + 3 * j + 1) [1, 1, 2, 5, 10, 30] hwc.1 rfl (by omega) (by simp)).mono ?_
        rintro e wd ⟨rfl, hwd⟩
        have hA := pk_mem [1, 1, 2, 5, 10, 30] L (k + 3 + 3 * j + 1) (by simp)
        simp only [List.mem_cons, List.not_mem_nil, or_false] at hA
        generalize pk [1, 1, 2, 5, 10, 30] L (k + 3 + 3 * j + 1) = da at *
        have hA' : 1 ≤ da ∧ da ≤ 30 := by omega
        have hownd := own_but hwc.1 (by decide) hown1 hwd.2
        have hwd' : Went w g L A cap (k + 3 + 3 * j + 1 + 1) wd := ⟨hwd.1, hwc.2.trans hwd.2⟩
        clear hwc hwd hown1 hA
        go_wp2_with fail
        refine (pick_new _ _ g L A cap (k + 3 + 3 * j + 1 + 1) [0, 0, 1, 1, 2, -1, -1, -4, 6] hwd'.1 rfl (by omega) (by simp)).mono ?_
        rintro e we ⟨rfl, hwe⟩
        have hA := pk_mem [0, 0, 1, 1, 2, -1, -1, -4, 6] L (k + 3 + 3 * j + 1 + 1) (by simp)
        simp only [List.mem_cons, List.not_mem_nil, or_false] at hA
        generalize pk [0, 0, 1, 1, 2, -1, -1, -4, 6] L (k + 3 + 3 * j + 1 + 1) = db at *
        have hB' : -4 ≤ db ∧ db ≤ 6 := by omega
        have howne := own_but hwd'.1 (by decide) hownd hwe.2
        have hwe' : Went w g L A cap (k + 3 + 3 * (j + 1)) we := ⟨hwe.1, hwd'.2.trans hwe.2⟩
        clear hwd' hwe hownd hA
        go_wp2_with fail
        go_roundw
        case rel => exact ⟨j + 1, xs ++ [⟨t, vv, q⟩], t + da, vv + db, by omega, by go_num, rfl, rfl, by omega, by omega, by rw [List.length_append, HXL.out]; rfl, HNR1.out, howne, hwe'⟩
        case measure => simp [intOf]; omega
    · obtain rfl : j = N := by omega
      have hlong : xs.length ≤ most := by rw [HXL.out]; exact hN
      by_cases hj0 : j = 0
      · subst hj0
        obtain rfl : xs = [] := List.eq_nil_of_length_eq_zero HXL.out
        rcases hown.2 with ⟨rfl, _⟩ | ⟨g', cap', cur, rfl, _, _⟩
        · go_wp2_with fail
          go_ret
          exact ⟨_, rfl, [], _, hown, by simp, HNR.out.mono (by omega), by omega, hwr⟩
        · go_wp2_with fail
          go_ret
          exact ⟨_, rfl, [], _, hown, by simp, HNR.out.mono (by omega), by omega, hwr⟩
      · obtain ⟨g1, cap1, rfl, hg1, hc1, hc2⟩ := own_form hown (by omega)
        have hj1 : 0 < j := by omega
        clear hj0
        go_wp2_with fail
        refine (flip_went _ g L A cap _ 12 hwr.1 (by omega) (by omega)).mono ?_
        rintro e w4 ⟨rfl, hw4, hz4⟩; clear hz4
        have hown4 := own_but hwr.1 (by decide) hown hw4.2
        have hw4' : Went w g L A cap (k + 3 + 3 * j + 1) w4 := ⟨hw4.1, hwr.2.trans hw4.2⟩
        clear hown hwr hw4
        by_cases hF : nxt L (k + 3 + 3 * j) 12 = 0
        · have hF' : (nxt L (k + 3 + 3 * j) 12 == 0) = true := by simpa using hF
          clear hF
          have hr := nxt_range L (k + 3 + 3 * j + 1) j (by omega)
          go_wp2_with fail
          refine (next_went _ g L A cap (k + 3 + 3 * j + 1) j hw4'.1 (by omega) (by omega)).mono ?_
          rintro e w5 ⟨rfl, hw5, hz5⟩; clear hz5
          have hown5 := own_but hw4'.1 (by decide) hown4 hw5.2
          have hw5' : Went w g L A cap (k + 3 + 3 * j + 2) w5 := ⟨hw5.1, hw4'.2.trans hw5.2⟩
          clear hown4 hw4' hw5
          have hin : ∃ n : Nat, nxt L (k + 3 + 3 * j + 1) j = (n : Int) ∧ n < j := ⟨(nxt L (k + 3 + 3 * j + 1) j).toNat, by omega, by omega⟩
          obtain ⟨n, hnx, hnj⟩ := hin
          generalize nxt L (k + 3 + 3 * j + 1) j = nn at *
          subst hnx
          go_wp2_with fail
          refine (next_went _ g L A cap (k + 3 + 3 * j + 2) 3 hw5'.1 (by omega) (by omega)).mono ?_
          rintro e w6 ⟨rfl, hw6, hz6⟩; clear hz6
          have hown6 := own_but hw5'.1 (by decide) hown5 hw6.2
          have hw6' : Went w g L A cap (k + 3 + 3 * j + 3) w6 := ⟨hw6.1, hw5'.2.trans hw6.2⟩
          clear hown5 hw5' hw6 hr
          have hr := nxt_range L (k + 3 + 3 * j + 2) 3 (by omega)
          generalize nxt L (k + 3 + 3 * j + 2) 3 = way at *
          obtain ⟨c0, c1, c2⟩ := own_cells hown6 HXL.out n hnj
          have hnx := HNR.out.at_ n (by rw [HXL.out]; exact hnj)
          rw [atS_eq xs n (by rw [HXL.out]; exact hnj)] at c0 c1 c2
          have hst : ∀ (w' : World) (r : Int), w'.ownsRow w.heap.size 57 3 (.slice (some ⟨g1, 0, none⟩) j cap1) j (cellsOf xs) →
              (w'.setCell ⟨g1, n * 3, none⟩ (.int .i64 r)).ownsRow w.heap.size 57 3 (.slice (some ⟨g1, 0, none⟩) j cap1) j (cellsOf (xs.set n ⟨r, (atS xs n).v, (atS xs n).q⟩)) ∧
              (w'.setCell ⟨g1, n * 3 + 1, none⟩ (.int .i64 r)).ownsRow w.heap.size 57 3 (.slice (some ⟨g1, 0, none⟩) j cap1) j (cellsOf (xs.set n ⟨(atS xs n).t, r, (atS xs n).q⟩)) ∧
              (w'.setCell ⟨g1, n * 3 + 2, none⟩ (.int .i64 r)).ownsRow w.heap.size 57 3 (.slice (some ⟨g1, 0, none⟩) j cap1) j (cellsOf (xs.set n ⟨(atS xs n).t, (atS xs n).v, r⟩)) := fun w' r h => by
            have hnl : n < xs.length := by rw [HXL.out]; exact hnj
            rw [← cellsOf_setT xs n hnl, ← cellsOf_setV xs n hnl, ← cellsOf_setQ xs n hnl]
            exact ⟨(h.stored _ _).1, (h.stored _ _).1, (h.stored _ _).1⟩
          generalize hx : atS xs n = x at *
          have HX := Lib.hid hx
          have HST := Lib.hid hst
          clear hst hx
          have i1 : (0 : Int) ≤ (n : Int) := by omega
          have i2 : (n : Int) < (j : Int) := by omega
          by_cases h0 : way = 0
          · subst h0
            have hs1 : IntKind.i64.wrap (x.t - 40) = x.t - 40 := IntWalk.i64_in _ (by omega)
            have hs2 : IntKind.i64.wrap (x.t + 3) = x.t + 3 := IntWalk.i64_in _ (by omega)
            have f0 := hown6.frozenAt (n * 3)
            go_wp2_with fail
            go_region_with (first | (go_at_call 63; refine (pick_new w6.drew w6.heap.size g L A cap (k + 3 + 3 * j + 3) [x.t - 40, -1, 345686400000, x.t + 3] hw6'.1.drew rfl (by omega) (by simp)).mono ?_; rintro e w7 ⟨rfl, hw7⟩; have hown7 := own_but hw6'.1.drew (by decide) hown6 hw7.2; have d0 : w7.cell? ⟨g1, n * 3, none⟩ = some (.int .i64 x.t) := (by have h := (own_cells hown7 HXL.out n hnj).1; rw [atS_eq xs n (by rw [HXL.out]; exact hnj), HX.out] at h; exact h); have f7 := hown7.frozenAt (n * 3)))
            all_goals
              have hpm := pk_mem [x.t - 40, -1, 345686400000, x.t + 3] L (k + 3 + 3 * j + 3) (by simp)
              simp only [List.mem_cons, List.not_mem_nil, or_false] at hpm
              generalize pk [x.t - 40, -1, 345686400000, x.t + 3] L (k + 3 + 3 * j + 3) = r at *
              have hrr : -2000000000000 ≤ r ∧ r ≤ 2000000000000 := by omega
              have hw7' : Went w g L A cap (k + 3 + 3 * j + 3 + 1) w7 := ⟨hw7.1, hw6'.2.drew.trans hw7.2⟩
              go_wp2_with fail
              go_ret
              exact ⟨_, rfl, xs.set n ⟨r, x.v, x.q⟩, _, by rw [List.length_set, HXL.out]; exact (HST.out _ _ hown7).1, by rw [List.length_set]; exact hlong, HNR.out.set n _ ⟨by simp only; omega, by simp only; omega, by simp only; omega⟩ (by omega), by omega, hw7'.setAt hlt0 (by exact hg1) _⟩
          · have h0' : (way == 0) = false := by simpa using h0
            by_cases h1 : way = 1
            · subst h1
              go_wp2_with fail
              refine (odd_went _ g L A cap _ (-1000000) 1000000 hw6'.1 (by omega) (by omega) (by omega) (by omega)).mono ?_
              rintro e w7 ⟨r, rfl, hrr, hw7⟩
              have hown7 := own_but hw6'.1 (by decide) hown6 hw7.2
              have hw7' : Went w g L A cap (k + 3 + 3 * j + 3 + 2) w7 := ⟨hw7.1, hw6'.2.trans hw7.2⟩
              have f1 := hown7.frozenAt (n * 3 + 1)
              have d1 := (own_cells hown7 HXL.out n hnj).2.1
              clear hw7 hown6 hw6' c0 c1 c2
              go_wp2_with fail
              go_ret
              exact ⟨_, rfl, xs.set n ⟨x.t, r, x.q⟩, _, by rw [List.length_set, HXL.out]; exact (HST.out _ _ hown7).2.1, by rw [List.length_set]; exact hlong, HNR.out.set n _ ⟨by simp only; omega, by simp only; omega, by simp only; omega⟩ (by omega), by omega, hw7'.setAt hlt0 (by exact hg1) _⟩
            · have h1' : (way == 1) = false := by simpa using h1
              go_wp2_with fail
              refine (odd_went _ g L A cap _ 0 2 hw6'.1 (by omega) (by omega) (by omega) (by omega)).mono ?_
              rintro e w7 ⟨r, rfl, hrr, hw7⟩
              have hown7 := own_but hw6'.1 (by decide) hown6 hw7.2
              have hw7' : Went w g L A cap (k + 3 + 3 * j + 3 + 2) w7 := ⟨hw7.1, hw6'.2.trans hw7.2⟩
              have f2 := hown7.frozenAt (n * 3 + 2)
              have d2 := (own_cells hown7 HXL.out n hnj).2.2
              clear hw7 hown6 hw6' c0 c1 c2
              go_wp2_with fail
              go_ret
              exact ⟨_, rfl, xs.set n ⟨x.t, x.v, r⟩, _, by rw [List.length_set, HXL.out]; exact (HST.out _ _ hown7).2.2, by rw [List.length_set]; exact hlong, HNR.out.set n _ ⟨by simp only; omega, by simp only; omega, by simp only; omega⟩ (by omega), by omega, hw7'.setAt hlt0 (by exact hg1) _⟩
        · have hF' : (nxt L (k + 3 + 3 * j) 12 == 0) = false := by simpa using hF
          clear hF
          go_wp2_with fail
          go_ret
          exact ⟨_, rfl, xs, _, by rw [HXL.out]; exact hown4, hlong, HNR.out.mono (by omega), by omega, hw4'⟩
end Go.Proofs.Ytmcojidaimeijaa
