/- The contract of TriggerOf (package logmake): four numbers within bounds. -/
import Derived.Test.YtdacdiigeainmaaOdd
import Derived.Test.YtdacdiigeainmaaDist
import Derived.Deep.DeepCutAuto
namespace Go.Proofs.Ytdacdiigeainmaa
open Go.RowKit
set_option linter.unusedVariables false
set_option linter.unusedSimpArgs false

/-- How TriggerOf ends. -/
def TrgEnd (w : World) (g : Nat) (L : List Int) (A : Option Addr) (cap k : Nat) (e : Ending) (w' : World) : Prop :=
  ∃ (a b c d : Int) (k' : Nat), e = .returned (.agg #[.int .i64 a, .int .i64 b, .int .i64 c, .int .i64 d]) ∧ (-1099511627776 ≤ a ∧ a ≤ 1099511627776) ∧ (-1099511627776 ≤ b ∧ b ≤ 1099511627776) ∧ (-1099511627776 ≤ c ∧ c ≤ 1099511627776) ∧ (-1099511627776 ≤ d ∧ d ≤ 1099511627776) ∧ k' ≤ k + 12 ∧ Went w g L A cap k' w'

set_option maxHeartbeats 400000 in
/-- Pick, where the slice lies in a block of its own that is older. -/
theorem pick_blk (w : World) (b : Nat) (g : Nat) (L : List Int) (A : Option Addr) (cap k : Nat) (xs : List Int) (hS : Strm w g L A cap k) (hB : Blk w b 3 (xs.map (Value.int .i64)).toArray) (hbg : b ≠ g) (hk : k ≤ 1000000000) (hx : 0 < xs.length ∧ xs.length ≤ 1000000) :
    Calls Try.prog 6 #[.pointer (some ⟨g, 0, none⟩), .slice (some ⟨b, 0, none⟩) xs.length xs.length] w fun e w' =>
      e = .returned (.int .i64 (pk xs L k)) ∧ Went w g L A cap (k + 1) w' := by
  have h1 := nxt_range L k xs.length (by omega)
  have hg := hS.lt
  have hi : (nxt L k xs.length).toNat < xs.length := by omega
  have HB := Lib.hid hB
  clear hB
  go_enter Try.func6, Try.ntmps6
  go_wp2_with (go_at_call 24; refine (next_went _ g L A cap k _ hS hk (by omega)).mono ?_; rintro e w' ⟨rfl, hw, hz⟩; have hcell : w'.cell? ⟨b, (nxt L k xs.length).toNat, none⟩ = some (.int .i64 (pk xs L k)) := ((HB.out.but hw.2 (by omega)).cell _).trans (by simp [pk, List.getD_eq_getElem?_getD, List.getElem?_eq_getElem hi]))
  go_ret
  exact ⟨rfl, hw⟩

/-- What TriggerOf keeps. -/
structure TgK (w0 : World) (g : Nat) (L : List Int) (A : Option Addr) (cap : Nat) (R F : Nat) (a b c d : Int) (k : Nat) (W : World) : Prop where
  s : Strm W g L A cap k
  bt : But g w0 W
  r : Blk W R 27 #[.int .i64 0, .int .i64 0, .int .i64 0, .int .i64 0]
  f : Blk W F 27 #[.int .i64 a, .int .i64 b, .int .i64 c, .int .i64 d]
  hg : g < R
  hR : R < F
section
variable {w0 W W' : World} {g : Nat} {L : List Int} {A : Option Addr} {cap R F k k' : Nat} {a b c d : Int}
theorem TgK.went (h : TgK w0 g L A cap R F a b c d k W) (hw : Went W g L A cap k' W') : TgK w0 g L A cap R F a b c d k' W' :=
  have h1 := h.hg
  have h2 := h.hR
  ⟨hw.1, h.bt.trans hw.2, h.r.but hw.2 (by omega), h.f.but hw.2 (by omega), h1, h2⟩
theorem TgK.alloc (h : TgK w0 g L A cap R F a b c d k W) (o : Obj) : TgK w0 g L A cap R F a b c d k (W.alloc o) := ⟨h.s.alloc _, h.bt.alloc _, h.r.alloc _, h.f.alloc _, h.hg, h.hR⟩
theorem TgK.drew (h : TgK w0 g L A cap R F a b c d k W) : TgK w0 g L A cap R F a b c d k W.drew := ⟨h.s.drew, h.bt.drew, h.r, h.f, h.hg, h.hR⟩
end

set_option maxRecDepth 100000 in
set_option maxHeartbeats 4000000 in
theorem triggerOf_went (w : World) (g : Nat) (L : List Int) (A : Option Addr) (cap k : Nat) (hS : Strm w g L A cap k) (hk : k ≤ 800000000) :
    Calls Try.prog 4 #[.pointer (some ⟨g, 0, none⟩)] w (TrgEnd w g L A cap k) := by
  have hlt0 := hS.lt
  have hB := Blk.new w 27 #[.int .i64 0, .int .i64 0, .int .i64 0, .int .i64 0]
  have HB := Lib.hid hB
  clear hB
  go_enter Try.func4, Try.ntmps4
  go_wp2_with fail
  refine (pick_new _ _ g L A cap k [3, 5, 8] (hS.alloc _) (by simp) (by omega) (by simp)).mono ?_
  rintro e w1 ⟨rfl, hw1⟩
  have hm1 := pk_mem [3, 5, 8] L k (by simp)
  simp only [List.mem_cons, List.not_mem_nil, or_false] at hm1
  generalize pk [3, 5, 8] L k = a at *
  have ha : 0 ≤ a ∧ a ≤ 1000 := by omega
  clear hm1
  go_wp2_with fail
  refine (pick_new _ _ g L A cap (k + 1) [0, 0, 2, 4] hw1.1 rfl (by omega) (by simp)).mono ?_
  rintro e w2 ⟨rfl, hw2⟩
  have hm2 := pk_mem [0, 0, 2, 4] L (k + 1) (by simp)
  simp only [List.mem_cons, List.not_mem_nil, or_false] at hm2
  generalize pk [0, 0, 2, 4] L (k + 1) = b0 at *
  have hb0 : 0 ≤ b0 ∧ b0 ≤ 1000 := by omega
  clear hm2
  obtain ⟨b, hbe⟩ : ∃ b, b = a - b0 := ⟨_, rfl⟩
  have hwb : IntKind.i64.wrap (a - b0) = b := by rw [hbe]; exact IntWalk.i64_in _ (by omega)
  have hbb : -1000 ≤ b ∧ b ≤ 1000 := by omega
  have HBE := Lib.hid hbe
  clear hbe
  go_wp2_with fail
  refine (pick_new _ _ g L A cap (k + 2) [0, 0, 3, 12] hw2.1 rfl (by omega) (by simp)).mono ?_
  rintro e w3 ⟨rfl, hw3⟩
  have hm3 := pk_mem [0, 0, 3, 12] L (k + 2) (by simp)
  simp only [List.mem_cons, List.not_mem_nil, or_false] at hm3
  generalize pk [0, 0, 3, 12] L (k + 2) = c at *
  have hc : 0 ≤ c ∧ c ≤ 1000 := by omega
  clear hm3
  go_wp2_with fail
  refine (pick_new _ _ g L A cap (k + 3) [0, 0, 5, 20] hw3.1 rfl (by omega) (by simp)).mono ?_
  rintro e w4 ⟨rfl, hw4⟩
  have hm4 := pk_mem [0, 0, 5, 20] L (k + 3) (by simp)
  simp only [List.mem_cons, List.not_mem_nil, or_false] at hm4
  generalize pk [0, 0, 5, 20] L (k + 3) = d at *
  have hd : 0 ≤ d ∧ d ≤ 1000 := by omega
  clear hm4
  have hg4 : But g w w4 := ((But.refl g w).alloc _).trans (hw1.2.trans (hw2.2.trans (hw3.2.trans hw4.2)))
  have hr4 : Blk w4 w.heap.size 27 #[.int .i64 0, .int .i64 0, .int .i64 0, .int .i64 0] := (((HB.out.but hw1.2 (by omega)).but hw2.2 (by omega)).but hw3.2 (by omega)).but hw4.2 (by omega)
  have hs4 := hw4.1
  have hlt4 := hr4.lt
  have hf4 := Blk.new w4 27 #[.int .i64 a, .int .i64 b, .int .i64 c, .int .i64 d]
  have HR4 := Lib.hid hr4
  have HF4 := Lib.hid hf4
  clear hw1 hw2 hw3 hw4 hr4 hf4
  go_wp2_with fail
  refine (flip_went _ g L A cap (k + 4) 15 (hs4.alloc _) (by omega) (by omega)).mono ?_
  rintro e w5 ⟨rfl, hw5, hz5⟩
  clear hz5
  have hr5 : Blk w5 w.heap.size 27 #[.int .i64 0, .int .i64 0, .int .i64 0, .int .i64 0] := (HR4.out.alloc _).but hw5.2 (by omega)
  have hf5 : Blk w5 w4.heap.size 27 #[.int .i64 a, .int .i64 b, .int .i64 c, .int .i64 d] := HF4.out.but hw5.2 (Nat.ne_of_gt (Nat.lt_trans hlt0 hlt4))
  have hg5 : But g w w5 := (hg4.alloc _).trans hw5.2
  have hs5 := hw5.1
  clear hw5 hg4 hs4
  have hne : ¬ w4.heap.size = w.heap.size := by omega
  have hne' : ¬ w.heap.size = w4.heap.size := by omega
  by_cases hN : nxt L (k + 4) 15 = 0
  · have hN' : (nxt L (k + 4) 15 == 0) = true := by simpa using hN
    clear hN
    have hk5 : TgK w g L A cap w.heap.size w4.heap.size a b c d (k + 5) w5 := ⟨hs5, hg5, hr5, hf5, hlt0, hlt4⟩
    have HPK := Lib.hid (fun (W : World) (B : Nat) (hS : Strm W g L A cap (k + 7)) (hB : Blk W B 3 #[.int .i64 b, .int .i64 9]) (hne : B ≠ g) =>
      (show Calls Try.prog 6 #[.pointer (some ⟨g, 0, none⟩), .slice (some ⟨B, 0, none⟩) 2 2] W fun e w' => e = .returned (.int .i64 (pk [b, 9] L (k + 7))) ∧ Went W g L A cap (k + 8) w' from
        pick_blk W B g L A cap (k + 7) [b, 9] hS hB hne (by omega) (by simp)))
    have hpm := pk_mem [b, 9] L (k + 7) (by simp)
    simp only [List.mem_cons, List.not_mem_nil, or_false] at hpm
    have hpb : -1000 ≤ pk [b, 9] L (k + 7) ∧ pk [b, 9] L (k + 7) ≤ 1000 := by omega
    generalize pk [b, 9] L (k + 7) = y at *
    have HO1 := Lib.hid (fun W (hS : Strm W g L A cap (k + 5)) => odd_went W g L A cap (k + 5) (-1000000) 1000000 hS (by omega) (by omega) (by omega) (by omega))
    have HO2 := Lib.hid (fun W K (hS : Strm W g L A cap K) (hK : K ≤ k + 20) => odd_went W g L A cap K 0 86400000 hS (by omega) (by omega) (by omega) (by omega))
    have d1 := hf5.cell 1
    clear hpm hr5 hf5 hg5 hs5
    have z5 := hk5.bt.size
    go_upto_region 4 with fail
    go_region_with (first
      | (go_at_call 22; (with_reducible refine (HO1.out _ ?_).mono ?_); (focus (first | exact hk5.s | exact hk5.drew.s | exact (hk5.drew.alloc _).s; done)); rintro e w6 ⟨x1, rfl, hx1, hq6⟩; have hk6 := TgK.went (by first | exact hk5 | exact hk5.drew | exact hk5.drew.alloc _) hq6; have e1 := hk6.f.cell 1; have z6 := hk6.bt.size)
      | (go_at_call 6; (with_reducible refine (HPK.out _ _ ?_ ?_ ?_).mono ?_); (focus (first | exact hk6.s | exact (hk6.alloc _).s; done)); (focus (first | exact Blk.new _ _ _ | exact (Blk.new w5.drew _ _).but hq6.2 (by show w5.heap.size ≠ g; omega); done)); (focus (first | omega | (show w5.heap.size ≠ g; omega); done)); rintro e w7 ⟨rfl, hq7⟩; have hk7 := TgK.went (by first | exact hk6 | exact hk6.alloc _) hq7)
      | (go_at_call 22; (with_reducible refine (HO2.out _ (k + 8) ?_ ?_).mono ?_); (focus (exact hk7.s; done)); (focus (omega; done)); rintro e w8 ⟨x2, rfl, hx2, hq8⟩; have hk8 := TgK.went hk7 hq8)
      | (go_at_call 22; (with_reducible refine (HO2.out _ (k + 10) ?_ ?_).mono ?_); (focus (exact hk8.s; done)); (focus (omega; done)); rintro e w9 ⟨x3, rfl, hx3, hq9⟩; have hk9 := TgK.went hk8 hq9; have c0 := hk9.r.cell 0; have c1 := hk9.r.cell 1; have c2 := hk9.r.cell 2; have c3 := hk9.r.cell 3; have d0 := hk9.f.cell 0; have d1 := hk9.f.cell 1; have d2 := hk9.f.cell 2; have d3 := hk9.f.cell 3; have fr0 := hk9.r.frozen 0; have fr1 := hk9.r.frozen 1; have fr2 := hk9.r.frozen 2; have fr3 := hk9.r.frozen 3; have fs0 := hk9.f.frozen 0; have fs1 := hk9.f.frozen 1; have fs2 := hk9.f.frozen 2; have fs3 := hk9.f.frozen 3))
    all_goals
      have hw9 : Went w g L A cap (k + 12) w9 := ⟨hk9.s, hk9.bt⟩
      clear hk5 hk6 hk7 hk8 hk9 hq6 hq7 hq8 hq9 e1
      go_wp2_with fail
      refine bodyPost_ret (v := .agg #[.int .i64 x1, .int .i64 y, .int .i64 x2, .int .i64 x3]) (by simp [results, Try.results4, go_sem, c0, c1, c2, c3, d0, d1, d2, d3, hne, hne']) rfl ⟨x1, y, x2, x3, k + 12, rfl, hx1, by omega, hx2, hx3, by omega, ?_⟩
      exact hw9.below hlt0 (by (repeat (refine Below.setCell ?_ (by first | exact Nat.le_refl _ | exact Nat.le_of_lt hlt4) _)); exact Below.refl _ _)
  · have hN' : (nxt L (k + 4) 15 == 0) = false := by simpa using hN
    clear hN
    have c0 := hr5.cell 0
    have c1 := hr5.cell 1
    have c2 := hr5.cell 2
    have c3 := hr5.cell 3
    have d0 := hf5.cell 0
    have d1 := hf5.cell 1
    have d2 := hf5.cell 2
    have d3 := hf5.cell 3
    have fr0 := hr5.frozen 0
    have fr1 := hr5.frozen 1
    have fr2 := hr5.frozen 2
    have fr3 := hr5.frozen 3
    have hw5' : Went w g L A cap (k + 5) w5 := ⟨hs5, hg5⟩
    clear hr5 hf5 hg5 hs5
    go_wp2_with fail
    refine bodyPost_ret (v := .agg #[.int .i64 a, .int .i64 b, .int .i64 c, .int .i64 d]) (by simp [results, Try.results4, go_sem, c0, c1, c2, c3, d0, d1, d2, d3, hne, hne']) rfl ⟨a, b, c, d, k + 5, rfl, by omega, by omega, by omega, by omega, by omega, ?_⟩
    exact hw5'.below hlt0 (by (repeat (refine Below.setCell ?_ (by first | exact Nat.le_refl _ | exact Nat.le_of_lt hlt4) _)); exact Below.refl _ _)
end Go.Proofs.Ytdacdiigeainmaa
