/-
  The walks of two laws of layer 2: any text, and any texts, have the digest that the document says. No statement of the seed is proved here.
-/
import Derived.Test.YtbfcafjceanghaaDoorLaw2b
import Derived.Test.YtbfcafjceanghaaDoorRf7
import Derived.Test.YtbfcafjceanghaaDoorRef1
namespace Go.Proofs.YtbfcafjceanghaaDoor
open Go.RowKit
set_option linter.unusedVariables false

set_option maxRecDepth 100000 in
set_option maxHeartbeats 2000000 in
theorem sum_walk (A : Option Addr) (n c : Nat) (bs : List UInt8) (w : World) (hgl : Glob w) (hr : RdB w A n c bs) :
    Calls Tryd.prog 3 #[.slice A n c] w fun e w' => e = .returned (.bool true) ∧ Kept [] w w' := by
  obtain ⟨i0, hi, hz0, hz1, hz2⟩ := info_parts u8info
  have hm := hr.most
  have hcc := hr.cap
  unfold maxLen at hm
  by_cases hn : 3000 < n
  · go_enter Tryd.func3, Tryd.ntmps3
    go_wp2_with fail
    refine (wakes_any _ hgl).mono ?_
    rintro e w3 ⟨rfl, hk1⟩
    go_wp2
    go_ret
    exact ⟨rfl, hk1⟩
  · go_enter Tryd.func3, Tryd.ntmps3
    go_wp2_with fail
    refine (wakes_any _ hgl).mono ?_
    rintro e w3 ⟨rfl, hk1⟩
    have hr1 := hr.kept0 hk1
    have hgl1 := hgl.kept0 hk1
    have ho0 : OwB 5 (w3.alloc (.cells #[] 5)) (.slice (some ⟨w3.heap.size, 0, none⟩) 0 0) [] := OwV.empty 5 w3
    have ka : Kept [] w3 (w3.alloc (.cells #[] 5)) := (Kept.refl [] w3).alloc _
    clear hgl hr
    go_wp2_with (at_builtin; refine wpList_append_bytes rfl (.tmp 9) (.tmp 10) 22 rfl 5 i0 _ 1 Tryd.underlying22 hi hz0 hz1 hz2 rfl (.slice (some ⟨w3.heap.size, 0, none⟩) 0 0) [] rfl ho0 A n c bs rfl (hr1.kept0 ka) (by simp only [maxLen, List.length_nil]; omega) (by simp only [List.length_nil]; omega) ?_)
    intro v4 w4 ho4 hk4 hm4
    obtain ⟨hK4, hb4⟩ := app_new ka (by simp [Value.ownBlock]) hk4 hm4
    obtain ⟨A4, n4, c4, rfl, hr4, _⟩ := ho4.form
    obtain rfl : n = n4 := by have := hr4.len; have := hr1.len; omega
    have hr14 := hr1.kept0 hK4
    have hgl4 := hgl1.kept0 hK4
    have hKw := hk1.andThen hK4
    clear ho0 ka ho4 hk4 hm4 hb4 hK4 hr1 hgl1
    go_wp2_with fail
    refine (sum_any A4 n c4 bs _ hr4 hgl4 (by omega)).mono ?_
    rintro e w5 ⟨rfl, hk5⟩
    have hr45 := hr4.kept0 hk5
    have hr15 := hr14.kept0 hk5
    go_wp2_with fail
    refine (rSum_any A n c bs _ hr15 (by omega)).mono ?_
    rintro e w6 ⟨rfl, hk6⟩
    have hr46 := hr45.kept0 hk6
    have hr16 := hr15.kept0 hk6
    have hg := fun W x y => run_eqGuard_agg (P := Tryd.prog) W .eql 25 x y (bvs (shaSum bs)).toArray (bvs (shaSum bs)).toArray (by kernel_rfl)
    have heq := fun W => run_equalIn_key (shaSum bs) (shaSum_length bs) W
    have hK6 := (hKw.andThen hk5).andThen hk6
    clear hr4 hr14 hr45 hr15 hk5 hk6 hKw hgl4
    go_wp2_with fail
    refine (same_yes _ _ _ _ _ bs _ hr46 hr16).mono ?_
    rintro e w7 ⟨rfl, m, rfl⟩
    go_wp2
    go_ret
    exact ⟨rfl, hK6.drewN m⟩

set_option maxRecDepth 100000 in
set_option maxHeartbeats 2000000 in
theorem sums_walk (A : Option Addr) (n c : Nat) (ls : List (List UInt8)) (w : World) (hgl : Glob w) (hr : RdL w A n c ls) :
    Calls Tryd.prog 4 #[.slice A n c] w fun e w' => e = .returned (.bool true) ∧ Kept [] w w' := by
  have hm := hr.most
  have hcc := hr.cap
  unfold maxLen at hm
  by_cases hn : 30 < n
  · go_enter Tryd.func4, Tryd.ntmps4
    go_wp2_with fail
    refine (wakes_any _ hgl).mono ?_
    rintro e w3 ⟨rfl, hk1⟩
    go_wp2
    go_ret
    exact ⟨rfl, hk1⟩
  · go_enter Tryd.func4, Tryd.ntmps4
    go_wp2_with fail
    refine (wakes_any _ hgl).mono ?_
    rintro e w3 ⟨rfl, hk1⟩
    have hr1 := hr.kept0 hk1
    have hgl1 := hgl.kept0 hk1
    have hlen := hr.len
    have Hlen := Lib.hid hlen
    clear hgl hr hlen
    go_wp2
    go_loopw [11] (fun i wr => ∃ k : Nat, k ≤ n ∧ i = .int .i64 k ∧ wr = w3 ∧ Hid (∀ l ∈ ls.take k, l.length ≤ 300)) (fun i _ => n - (intOf i).toNat)
    case atStart => exact ⟨0, by omega, rfl, rfl, by intro l hl; simp at hl⟩
    case round =>
      obtain ⟨k, hk, rfl, rfl, H⟩ := hrel
      by_cases hlt : k < n
      · obtain ⟨b, off, rfl, hb, hc⟩ := hr1.cells (by omega)
        have hkl : k < ls.length := by have := Hlen.out; omega
        obtain ⟨Aj, nj, cj, c0, hrj⟩ := hc k hkl
        have hjl := hrj.len
        by_cases hbig : 300 < nj
        · clear hc hr1 hrj hjl
          go_wp2
          go_ret
          exact ⟨rfl, hk1⟩
        · have Hn : Hid (∀ l ∈ ls.take (k + 1), l.length ≤ 300) := by
            show ∀ l ∈ ls.take (k + 1), l.length ≤ 300
            intro l hl
            rw [take_step ls k ls[k] (List.getElem?_eq_getElem hkl), List.mem_append] at hl
            rcases hl with hl | hl
            · exact H.out l hl
            · simp at hl
              subst hl
              omega
          clear hc hr1 hrj hjl
          go_wp2
          go_roundw
          case rel => exact ⟨k + 1, by omega, by go_num, trivial, Hn⟩
          case measure => simp [intOf]; omega
      · obtain rfl : n = k := by omega
        have hall : ls.flatten.length ≤ 1000000 := by
          have h1 := H.out
          have h2 := Hlen.out
          rw [List.take_of_length_le (by omega)] at h1
          have := flat_le ls 300 h1
          have h3 : ls.length * 300 ≤ 30 * 300 := Nat.mul_le_mul_right _ (by omega)
          omega
        have Hall := Lib.hid hall
        clear hall H hlt hk
        go_wp2_with fail
        refine (sums_any A n c ls _ hr1 hgl1 (by have := Hall.out; omega)).mono ?_
        rintro e w5 ⟨rfl, hk5⟩
        go_wp2_with fail
        refine (rSums_any A n c ls _ (hr1.kept0 hk5) Hall.out).mono ?_
        rintro e w6 ⟨rfl, hk6⟩
        have hg := fun W x y => run_eqGuard_agg (P := Tryd.prog) W .eql 25 x y (bvs (shaSum ls.flatten)).toArray (bvs (shaSum ls.flatten)).toArray (by kernel_rfl)
        have heq := fun W => run_equalIn_key (shaSum ls.flatten) (shaSum_length _) W
        go_wp2
        go_ret
        exact ⟨rfl, (hk1.andThen hk5).andThen hk6⟩
end Go.Proofs.YtbfcafjceanghaaDoor
