/- The contract of slices.Repeat at one byte. -/
import Derived.Deep.RegionLaw
import Derived.Laws.CopyOwn
import Derived.Deep.DeepCutAuto
import Derived.Test.YtiaoclnhocadeaaByt
import Derived.Test.YtiaoclnhocadeaaMulb
namespace Go.Proofs.Ytiaoclnhocadeaa
open Go.RowKit
set_option linter.unusedVariables false
set_option linter.unusedSimpArgs false

set_option maxHeartbeats 400000 in
theorem mul_any (x y : Nat) (hx : x < 18446744073709551616) (hy : y < 18446744073709551616) (w : World) :
    Calls Try.prog 59 #[.int .u64 x, .int .u64 y] w fun e w' => e = .returned (.tuple #[.int .u64 ((x * y / 18446744073709551616 : Nat) : Int), .int .u64 ((x * y % 18446744073709551616 : Nat) : Int)]) ∧ w = w' := by
  have hm := fun w => mul64_any x y hx hy w
  generalize x * y / 18446744073709551616 = a at *
  generalize x * y % 18446744073709551616 = b at *
  go_enter Try.func59, Try.ntmps59
  go_wp2_with (go_at_call 68; refine (hm _).mono ?_; rintro e w' ⟨rfl, rfl⟩)
  go_ret2
  exact ⟨rfl, rfl⟩

theorem own_full {w : World} {base g n : Nat} {e : TypeId} {xs : List Value} (h : w.ownsRow base e 1 (.slice (some ⟨g, 0, none⟩) n n) n xs) : w.heap[g]? = some (.cells xs.toArray e (0, 0)) := by
  rcases h.2 with ⟨h1, h2⟩ | ⟨g', cap, cur, h1, _, h3, h4, _, h5, h6⟩
  · cases h1
  · injection h1 with h1 h2 h7
    injection h1 with h1
    injection h1 with h1
    subst h1
    subst h7
    rw [h3]
    have h8 : cur.toList.take (n * 1) = cur.toList := List.take_of_length_le (by simp [h5])
    rw [h8] at h6
    rw [← h6]
theorem u8_one : (Try.prog.info? 5).map (·.size) = some 1 := by kernel_rfl
/-- What Repeat has after n bytes. -/
def rptTo (y : Int) (N n : Nat) : List Value := List.replicate n (Value.int .u8 y) ++ List.replicate (N - n) (Value.int .u8 0)
theorem rptTo_step (y : Int) (N n m : Nat) (h : n + m ≤ N) : splice (rptTo y N n) n (List.replicate m (Value.int .u8 y)) = rptTo y N (n + m) := by
  unfold splice rptTo
  rw [List.take_append_of_le_length (by simp), List.take_of_length_le (by simp)]
  rw [← List.append_assoc, List.replicate_append_replicate]
  congr 1
  rw [List.drop_append]
  simp
  omega

set_option maxRecDepth 100000 in
set_option maxHeartbeats 2000000 in
theorem repeat_any (b N : Nat) (y : Int) (w : World) (hb : Blk w b 5 #[.int .u8 y]) (hN : 1 ≤ N ∧ N ≤ 1000) :
    Calls Try.prog 41 #[.slice (some ⟨b, 0, none⟩) 1 1, .int .i64 (N : Int)] w fun e w' => ∃ v', e = .returned v' ∧ OwnB w' w.heap.size v' (List.replicate N y) ∧ Below w.heap.size w w' := by
  obtain ⟨i0, hi0, hz0, hz1, hz2⟩ := info_parts u8_size
  have hmu := fun w => mul_any 1 N (by omega) (by omega) w
  have e1 : 1 * N / 18446744073709551616 = 0 := by omega
  have e2 : 1 * N % 18446744073709551616 = N := by omega
  rw [e1, e2] at hmu
  have hw1 : IntKind.u64.wrap (N : Int) = (N : Int) := Mul64.wrapN N (by omega)
  clear e1 e2
  have hfz : (madeCells (Value.int .u8 0).cells (N * 1)).toList = rptTo y N 0 := by
    unfold rptTo
    apply List.ext_getElem?
    intro i
    rcases Nat.lt_or_ge i N with hi | hi
    · simp [madeCells, Value.cells, hi, Nat.mod_one]
    · rw [List.getElem?_eq_none (by simp [madeCells]; omega), List.getElem?_eq_none (by simp; omega)]
  have HFZ := Lib.hid hfz
  have HB := Lib.hid hb
  have HN1 : ((1 : Nat) : Int) ≤ (N : Int) := by omega
  clear hfz hb
  go_enter Try.func41, Try.ntmps41
  go_upto_region 7 with (first
    | (go_at_call 59; refine (hmu _).mono ?_; rintro e w' ⟨rfl, rfl⟩)
    | (at_make; go_loud (refine wpList_make_full w rfl (.tmp 29) (.tmp 29) 49 rfl w.heap.size 5 i0 _ 1 Try.underlying49 hi0 hz0 hz1 .i64 .i64 _ _ N rfl rfl rfl rfl (by rw [hz2]; omega) (by simp only [maxLen]; omega) (Nat.le_refl _) ?_); intro w1 hown hgr; have hb1 := (Below.refl w.heap.size w).grown hgr (Nat.le_refl _) (fun k hk => by simp [Value.ownBlock] at hk); have hcur := own_full hown; rw [HFZ.out] at hcur; have HCUR := Lib.hid hcur; have HBL := Lib.hid (HB.out.below hb1 HB.out.lt); clear hown hgr hcur hi0))
  have hfit : 0 + [Value.int .u8 y].length ≤ (rptTo y N 0).length := by simp [rptTo]; omega
  have hone : ∀ v ∈ [Value.int .u8 y], v.oneCell' = true := by simp; rfl
  have hsrc : ∀ j v, [Value.int .u8 y][j]? = some v → w1.cell? ⟨b, j, none⟩ = some v := by
    intro j v hj
    rcases Nat.eq_zero_or_pos j with h | h
    · subst h; rw [HBL.out.cell 0, ← hj]; rfl
    · rw [List.getElem?_eq_none (by simp; omega)] at hj; cases hj
  have HFIT := Lib.hid hfit
  have HONE := Lib.hid hone
  have HSRC := Lib.hid hsrc
  clear hfit hone hsrc
  go_wp2_with (with_reducible refine wpList_copy_splice (o := ⟨some 33, _, _, _, _, _⟩) rfl (.tmp 31) (.tmp 32) 49 49 rfl 5 Try.underlying49 u8_one (some ⟨w.heap.size, 0, none⟩) (some ⟨b, 0, none⟩) N N 1 1 rfl rfl w.heap.size 0 (rptTo y N 0) 5 HCUR.out [Value.int .u8 y] ?c1 ?c2 HFIT.out HONE.out w.heap.size w hb1 ?c3 ?_)
  case c1 => exact (Nat.min_eq_left hN.1).symm
  case c2 => exact HSRC.out
  case c3 => exact Nat.le_refl _
  intro w2 hg2 hb2
  have hg2' := hg2.out
  rw [show [Value.int .u8 y] = List.replicate 1 (Value.int .u8 y) from rfl, rptTo_step y N 0 1 (by omega)] at hg2'
  have HG2 := Lib.hid hg2'
  clear hg2 hg2'
  go_wp2_with fail
  go_loopw [8] (fun n wr => ∃ k : Nat, 1 ≤ k ∧ k ≤ N ∧ n = .int .i64 (k : Int) ∧ wr.heap[w.heap.size]? = some (.cells (rptTo y N k).toArray 5 (0, 0)) ∧ Below w.heap.size w wr) (fun n _ => N - (intOf n).toNat)
  case atStart => exact ⟨1, by omega, by omega, rfl, HG2.out, hb2⟩
  case round =>
    obtain ⟨k, hk1, hkN, rfl, hcur, hbr⟩ := hrel
    have HC := Lib.hid hcur
    clear hcur
    by_cases hlt : k < N
    · have hne : ¬ N = k := by omega
      have hlt' : (k : Int) < (N : Int) := by omega
      have hmin : (List.replicate (Nat.min k (N - k)) (Value.int .u8 y)).length = Nat.min k (N - k) := by simp
      have hm0 : 1 ≤ Nat.min k (N - k) ∧ Nat.min k (N - k) ≤ k ∧ Nat.min k (N - k) ≤ N - k := ⟨by rw [show Nat.min k (N - k) = min k (N - k) from rfl]; omega, Nat.min_le_left _ _, Nat.min_le_right _ _⟩
      generalize hM : Nat.min k (N - k) = M at *
      have hfit : k + (List.replicate M (Value.int .u8 y)).length ≤ (rptTo y N k).length := by simp [rptTo]; omega
      have hone : ∀ v ∈ List.replicate M (Value.int .u8 y), v.oneCell' = true := by intro v hv; obtain ⟨_, rfl⟩ := List.mem_replicate.mp hv; rfl
      have hsrc : ∀ (n : Nat) j v, (List.replicate M (Value.int .u8 y))[j]? = some v → (wr.drewN n).cell? ((⟨w.heap.size, 0, none⟩ : Addr).add j) = some v := by
        intro n j v hj
        have hjM : j < M := by
          rcases Nat.lt_or_ge j M with h | h
          · exact h
          · rw [List.getElem?_eq_none (by simpa using h)] at hj; cases hj
        have e1 : (⟨w.heap.size, 0, none⟩ : Addr).add j = ⟨w.heap.size, j, none⟩ := by unfold Addr.add; split <;> simp_all
        rw [e1]
        show wr.cell? _ = _
        simp only [World.cell?, HC.out]
        simp [hjM] at hj
        subst hj
        unfold rptTo
        have hjk : j < k := by omega
        rw [List.getElem?_toArray, List.getElem?_append_left (by simp; omega)]
        simp [hjk]
      have HFIT := Lib.hid hfit
      have HONE := Lib.hid hone
      have HSRC := Lib.hid hsrc
      have HMIN := Lib.hid (hmin.trans hM.symm)
      have hst := rptTo_step y N k M (by omega)
      have HST := Lib.hid hst
      clear hfit hone hsrc hst hmin hM
      go_wp2_with fail
      go_region_law (refine step_copy_splice rfl (.tmp 41) (.tmp 44) 49 49 rfl 5 Try.underlying49 u8_one (some ⟨w.heap.size, k, none⟩) (some ⟨w.heap.size, 0, none⟩) (N - k) (N - k) k N (by simp [Act.eval, Act.put]) (by simp [Act.eval, Act.put]) w.heap.size k (rptTo y N k) 5 HC.out (List.replicate M (Value.int .u8 y)) HMIN.out (fun _ => ⟨rfl, _, rfl, HSRC.out _⟩) HFIT.out HONE.out w.heap.size w (belN hbr _) (Nat.le_refl _) ?_; intro w3 hg3 hb3)
      have hg3' := hg3.out
      rw [HST.out] at hg3'
      have HG3 := Lib.hid hg3'
      have hwr : IntKind.i64.wrap ((k : Int) + (M : Int)) = (k : Int) + (M : Int) := IntWalk.i64_in _ (by omega)
      clear hg3 hg3'
      go_frame
      rw [hwr]
      go_roundw
      case rel => (repeat apply Exists.intro); exact ⟨⟨k + M, by omega, by omega, by go_num, HG3.out, hb3⟩, rfl⟩
      case measure => simp [intOf]; omega
    · obtain rfl : k = N := by omega
      have hv : OwnB wr w.heap.size (.slice (some ⟨w.heap.size, 0, none⟩) k k) (List.replicate k y) := by
        refine ⟨by simp, .inr ⟨w.heap.size, k, _, by simp, Nat.le_refl _, HC.out, by simp, by simp only [maxLen]; omega, by simp [rptTo], ?_⟩⟩
        simp [rptTo]
      have HV := Lib.hid hv
      clear hv
      go_wp2_with fail
      go_ret
      exact ⟨_, rfl, HV.out, hbr⟩
end Go.Proofs.Ytiaoclnhocadeaa
