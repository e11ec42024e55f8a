/- The contract of Limit (package sample). -/
import Derived.Test.YtjkncmhmmafmjaaScale
namespace Go.Proofs.Ytjkncmhmmafmjaa
open Go.RowKit
set_option linter.unusedVariables false
set_option linter.unusedSimpArgs false

def limitR (l : List Smp) (lo hi : Int) : List Smp := if orErr (serErr l) (limErr lo hi) = 0 then l.map (good (limitF lo hi)) else []

set_option maxRecDepth 100000 in
set_option maxHeartbeats 1000000 in
theorem limit_any (v : Value) (l : List Smp) (lo hi : Int) (w : World) (hR : RdS w 27 v l) :
    Calls Try.prog 34 #[v, .int .i64 lo, .int .i64 hi] w fun e w' =>
      ∃ v', e = .returned (.tuple #[v', .int .i64 (orErr (serErr l) (limErr lo hi))]) ∧ RdS w' 27 v' (limitR l lo hi) ∧ Below w.heap.size w w' := by
  have hmf : ∀ (fn : Fn) (first cap : Array Value) (w : World), (Instr.makeFunc fn first cap).run Try.prog w = .ok (.func fn first cap) w := fun _ _ _ _ => rfl
  have hBl := (Blk.new w 3 #[.int .i64 lo]).alloc (.cells #[.int .i64 hi] 3)
  have hBh := Blk.new1 w (.cells #[.int .i64 lo] 3) 3 #[.int .i64 hi]
  have HBL := Lib.hid hBl
  have HBH := Lib.hid hBh
  clear hBl hBh
  by_cases hS : serErr l = 0
  · have hS' : (serErr l != 0) = false := by simpa using hS
    have HS := Lib.hid hS
    clear hS
    have hfdef : limErr lo hi = if lo < -1000000 ∨ hi < lo ∨ 1000000 < hi then 1 else 0 := rfl
    by_cases h1 : lo < -1000000
    · have hf1 : limErr lo hi = 1 := by rw [hfdef, if_pos (.inl h1)]
      have HF := Lib.hid hf1
      clear hf1 hfdef
      go_enter Try.func34, Try.ntmps34
      go_wp2_with fail
      refine (checkSeries_any v l _ (Rd.alloc (Rd.alloc hR _) _)).mono ?_
      rintro e w1 ⟨rfl, hb1⟩
      have hbl1 : Blk w1 w.heap.size 3 #[.int .i64 lo] := HBL.out.below hb1 (by simp; omega)
      have hbh1 : Blk w1 (w.heap.size + 1) 3 #[.int .i64 hi] := HBH.out.below hb1 (by simp)
      have hbw1 : Below w.heap.size w w1 := (((Below.refl _ w).alloc (Nat.le_refl _) _).alloc (by simp) _).trans (hb1.mono (by simp; omega))
      have hz1 : w.heap.size + 1 < w1.heap.size := by have := hb1.size; simp at this; omega
      have c0 : w1.cell? ⟨w.heap.size, 0, none⟩ = some (.int .i64 lo) := hbl1.cell 0
      have c1 : w1.cell? ⟨w.heap.size + 1, 0, none⟩ = some (.int .i64 hi) := hbh1.cell 0
      have HBL1 := Lib.hid hbl1
      have HBH1 := Lib.hid hbh1
      clear hb1 hbl1 hbh1
      go_wp2_with fail
      go_ret2
      have hE : orErr (serErr l) (limErr lo hi) = 1 := by rw [orErr, if_neg (by rw [HS.out]; simp)]; exact HF.out
      refine ⟨.slice none 0 0, by rw [hE]; rfl, ?_, hbw1⟩
      have : limitR l lo hi = [] := by unfold limitR; rw [hE, if_neg (by omega)]
      rw [this]; exact Rd.nil _ _ _
    · by_cases h2 : hi < lo
      · have hf1 : limErr lo hi = 1 := by rw [hfdef, if_pos (.inr (.inl h2))]
        have HF := Lib.hid hf1
        clear hf1 hfdef
        go_enter Try.func34, Try.ntmps34
        go_wp2_with fail
        refine (checkSeries_any v l _ (Rd.alloc (Rd.alloc hR _) _)).mono ?_
        rintro e w1 ⟨rfl, hb1⟩
        have hbl1 : Blk w1 w.heap.size 3 #[.int .i64 lo] := HBL.out.below hb1 (by simp; omega)
        have hbh1 : Blk w1 (w.heap.size + 1) 3 #[.int .i64 hi] := HBH.out.below hb1 (by simp)
        have hbw1 : Below w.heap.size w w1 := (((Below.refl _ w).alloc (Nat.le_refl _) _).alloc (by simp) _).trans (hb1.mono (by simp; omega))
        have hz1 : w.heap.size + 1 < w1.heap.size := by have := hb1.size; simp at this; omega
        have c0 : w1.cell? ⟨w.heap.size, 0, none⟩ = some (.int .i64 lo) := hbl1.cell 0
        have c1 : w1.cell? ⟨w.heap.size + 1, 0, none⟩ = some (.int .i64 hi) := hbh1.cell 0
        have HBL1 := Lib.hid hbl1
        have HBH1 := Lib.hid hbh1
        clear hb1 hbl1 hbh1
        go_wp2_with fail
        go_ret2
        have hE : orErr (serErr l) (limErr lo hi) = 1 := by rw [orErr, if_neg (by rw [HS.out]; simp)]; exact HF.out
        refine ⟨.slice none 0 0, by rw [hE]; rfl, ?_, hbw1⟩
        have : limitR l lo hi = [] := by unfold limitR; rw [hE, if_neg (by omega)]
        rw [this]; exact Rd.nil _ _ _
      · by_cases h3 : 1000000 < hi
        · have hf1 : limErr lo hi = 1 := by rw [hfdef, if_pos (.inr (.inr h3))]
          have HF := Lib.hid hf1
          clear hf1 hfdef
          go_enter Try.func34, Try.ntmps34
          go_wp2_with fail
          refine (checkSeries_any v l _ (Rd.alloc (Rd.alloc hR _) _)).mono ?_
          rintro e w1 ⟨rfl, hb1⟩
          have hbl1 : Blk w1 w.heap.size 3 #[.int .i64 lo] := HBL.out.below hb1 (by simp; omega)
          have hbh1 : Blk w1 (w.heap.size + 1) 3 #[.int .i64 hi] := HBH.out.below hb1 (by simp)
          have hbw1 : Below w.heap.size w w1 := (((Below.refl _ w).alloc (Nat.le_refl _) _).alloc (by simp) _).trans (hb1.mono (by simp; omega))
          have hz1 : w.heap.size + 1 < w1.heap.size := by have := hb1.size; simp at this; omega
          have c0 : w1.cell? ⟨w.heap.size, 0, none⟩ = some (.int .i64 lo) := hbl1.cell 0
          have c1 : w1.cell? ⟨w.heap.size + 1, 0, none⟩ = some (.int .i64 hi) := hbh1.cell 0
          have HBL1 := Lib.hid hbl1
          have HBH1 := Lib.hid hbh1
          clear hb1 hbl1 hbh1
          go_wp2_with fail
          go_ret2
          have hE : orErr (serErr l) (limErr lo hi) = 1 := by rw [orErr, if_neg (by rw [HS.out]; simp)]; exact HF.out
          refine ⟨.slice none 0 0, by rw [hE]; rfl, ?_, hbw1⟩
          have : limitR l lo hi = [] := by unfold limitR; rw [hE, if_neg (by omega)]
          rw [this]; exact Rd.nil _ _ _
        · have hf1 : limErr lo hi = 0 := by rw [hfdef, if_neg (by omega)]
          have HF := Lib.hid hf1
          have hlh : lo ≤ hi := by omega
          clear hf1 hfdef
          go_enter Try.func34, Try.ntmps34
          go_wp2_with fail
          refine (checkSeries_any v l _ (Rd.alloc (Rd.alloc hR _) _)).mono ?_
          rintro e w1 ⟨rfl, hb1⟩
          have hbl1 : Blk w1 w.heap.size 3 #[.int .i64 lo] := HBL.out.below hb1 (by simp; omega)
          have hbh1 : Blk w1 (w.heap.size + 1) 3 #[.int .i64 hi] := HBH.out.below hb1 (by simp)
          have hbw1 : Below w.heap.size w w1 := (((Below.refl _ w).alloc (Nat.le_refl _) _).alloc (by simp) _).trans (hb1.mono (by simp; omega))
          have hz1 : w.heap.size + 1 < w1.heap.size := by have := hb1.size; simp at this; omega
          have c0 : w1.cell? ⟨w.heap.size, 0, none⟩ = some (.int .i64 lo) := hbl1.cell 0
          have c1 : w1.cell? ⟨w.heap.size + 1, 0, none⟩ = some (.int .i64 hi) := hbh1.cell 0
          have HBL1 := Lib.hid hbl1
          have HBH1 := Lib.hid hbh1
          clear hb1 hbl1 hbh1
          go_wp2_with fail
          obtain ⟨hlen, hall⟩ := serErr_good HS.out
          refine (eachValue_any v l _ 75 _ _ (limitF lo hi) (Rd.below hR (hbw1.mono (Nat.le_refl _))) hlen enter_limit (fun x w' hx hq hb => limit1_any x w.heap.size (w.heap.size + 1) lo hi w'
            ((HBL1.out.below hb (by omega)).cell 0) ((HBH1.out.below hb hz1).cell 0) (by have := hb.size; omega) (by have := hb.size; omega) hlh)).mono ?_
          rintro e w3 ⟨v3, rfl, hown, hb3⟩
          go_wp2_with fail
          go_ret2
          have hE : orErr (serErr l) (limErr lo hi) = 0 := by rw [orErr, if_neg (by rw [HS.out]; simp)]; exact HF.out
          refine ⟨v3, by rw [hE]; rfl, ?_, hbw1.trans (hb3.mono hbw1.size)⟩
          have : limitR l lo hi = l.map (good (limitF lo hi)) := by unfold limitR; rw [hE, if_pos rfl]
          rw [this]
          have hr := Rd.of_own hown
          rw [← List.length_map (f := good (limitF lo hi))] at hr
          exact hr
  · have hS' : (serErr l != 0) = true := by simpa using hS
    have HS := Lib.hid hS
    clear hS
    go_enter Try.func34, Try.ntmps34
    go_wp2_with fail
    refine (checkSeries_any v l _ (Rd.alloc (Rd.alloc hR _) _)).mono ?_
    rintro e w1 ⟨rfl, hb1⟩
    go_wp2_with fail
    go_ret2
    have hE : orErr (serErr l) (limErr lo hi) = serErr l := if_pos HS.out
    refine ⟨.slice none 0 0, by rw [hE]; rfl, ?_, ?_⟩
    · have : limitR l lo hi = [] := by unfold limitR; rw [hE, if_neg HS.out]
      rw [this]; exact Rd.nil _ _ _
    · exact (((Below.refl _ w).alloc (Nat.le_refl _) _).alloc (by simp) _).trans (hb1.mono (by simp; omega))
end Go.Proofs.Ytjkncmhmmafmjaa
