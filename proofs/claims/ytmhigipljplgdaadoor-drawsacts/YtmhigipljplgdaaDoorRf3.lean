/-
  Contract of the document's own sixty-four words of a block. No statement of the seed is proved here.
-/
import Derived.Test.YtmhigipljplgdaaDoorRf2
import Derived.Test.YtmhigipljplgdaaDoorR1c
import Derived.Test.YtmhigipljplgdaaDoorPc
import Derived.Deep.RegionHeld3
namespace Go.Proofs.YtmhigipljplgdaaDoor
open Go.RowKit
set_option linter.unusedVariables false

theorem rTwo_at (x : W32) (a b c : Nat) (y1 y2 y3 : Int) (w : World) (e1 : y1 = (a : Int)) (e2 : y2 = (b : Int)) (e3 : y3 = (c : Int)) (ha : 1 ≤ a ∧ a < 32) (hb : 1 ≤ b ∧ b < 32) (hc : 1 ≤ c ∧ c < 32) :
    Calls Tryd.prog 35 #[.int .u32 (wv x), .agg #[.int .i64 y1, .int .i64 y2, .int .i64 y3]] w fun e w' => e = .returned (.int .u32 (wv (three x a b c ^^^ (x <<< (32 - c))))) ∧ Kept [] w w' := by
  subst e1 e2 e3; exact rTwo_any x a b c w ha hb hc
theorem rThree_at (x : W32) (a b c : Nat) (y1 y2 y3 : Int) (w : World) (e1 : y1 = (a : Int)) (e2 : y2 = (b : Int)) (e3 : y3 = (c : Int)) (ha : 1 ≤ a ∧ a < 32) (hb : 1 ≤ b ∧ b < 32) (hc : 1 ≤ c ∧ c < 32) :
    Calls Tryd.prog 31 #[.int .u32 (wv x), .agg #[.int .i64 y1, .int .i64 y2, .int .i64 y3]] w fun e w' => e = .returned (.int .u32 (wv (three x a b c))) ∧ Kept [] w w' := by
  subst e1 e2 e3; exact rThree_any x a b c w ha hb hc
def slen3 : Value → Nat
  | .slice _ n _ => n
  | _ => 0
theorem u32info : (Tryd.prog.info? 58).map (fun i => (i.zero, i.size, i.bytes)) = some (some (.int .u32 0), 1, 4) := by kernel_rfl

/-- Where a row of one's own lies. -/
theorem OwV.at0 {e : TypeId} {w : World} {v : Value} {vs : List Value} (h : OwV e w v vs) (hn : 0 < vs.length) : ∃ g cap, v = .slice (some ⟨g, 0, none⟩) vs.length cap ∧ g < w.heap.size ∧ vs.length ≤ cap ∧ cap ≤ maxLen ∧ ∀ j, (hj : j < vs.length) → w.cell? ⟨g, j, none⟩ = some vs[j] := by
  rcases h.2 with ⟨rfl, h0⟩ | ⟨g, cap, cur, rfl, _, hg, hnc, hcm, hcs, htake⟩
  · omega
  · refine ⟨g, cap, rfl, (Array.getElem?_eq_some_iff.1 hg).1, hnc, hcm, fun j hj => ?_⟩
    rw [cell_of_row w g j cur e (0, 0) hg]
    have := congrArg (fun l : List Value => l[j]?) htake
    simp only [List.getElem?_take] at this
    rw [if_pos (by omega), List.getElem?_eq_getElem hj] at this
    simpa using this

theorem got_field0 (x v d e : Value) (W : World) : (Instr.field 79 (.agg #[x, v, d, e]) 0).run Tryd.prog W = .ok x W := by kernel_rfl
/-- What a take of four bytes tells. -/
theorem take4_at (A : Option Addr) (n c : Nat) (bs : List UInt8) (a : Nat) (z : Int) (w : World) (hr : RdB w A n c bs) (hz : z = (a : Int)) (ha : a + 4 ≤ n) (hn : n ≤ 1000000) :
    Calls Tryd.prog 34 #[.slice A n c, .int .i64 z, .int .i64 4] w fun e w' => ∃ v d er, e = .returned (.agg #[.int .u64 (wv (wd (bs.drop a))), v, d, er]) ∧ Kept [] w w' := by
  subst hz
  have hl := hr.len
  have ht : (tnum (bs.drop a) 4).1 = num ((bs.drop a).take 4) := by
    unfold tnum
    rw [if_neg (by omega), if_neg (by rw [List.length_drop]; show ¬ _ < 4; omega)]
    rfl
  have hlt : num ((bs.drop a).take 4) < 4294967296 := by
    have h1 := num_lt ((bs.drop a).take 4)
    have h2 : (256 : Nat) ^ ((bs.drop a).take 4).length ≤ 256 ^ 4 := Nat.pow_le_pow_right (by omega) (by rw [List.length_take]; omega)
    omega
  refine (rfTakeNum_any A n c bs a 4 w hr (by omega) hn).mono ?_
  rintro e w1 ⟨v, rfl, ho, hk, hf⟩
  have e : wv (wd (bs.drop a)) = (((tnum (bs.drop a) 4).1 : Nat) : Int) := by rw [ht]; unfold wd; rw [wv_ofNat _ hlt]
  rw [e]
  exact ⟨v, _, _, rfl, hk⟩

/-- A row of words that is made anew. -/
def RowRet (l : List W32) (w : World) (e : Ending) (w' : World) : Prop := ∃ v, e = .returned v ∧ OwV 58 w' v (wvs l) ∧ Kept [] w w' ∧ ∀ g, v.ownBlock = some g → w.heap.size ≤ g

set_option maxRecDepth 100000 in
set_option maxHeartbeats 4000000 in
theorem rSpread_any (A : Option Addr) (c : Nat) (bs : List UInt8) (w : World) (hr : RdB w A 64 c bs) :
    Calls Tryd.prog 29 #[.slice A 64 c] w (RowRet (words64 bs) w) := by
  obtain ⟨i0, hi, hz0, hz1, hz2⟩ := info_parts u32info
  go_enter Tryd.func29, Tryd.ntmps29
  go_wp2
  go_loopw [3] (fun v wr => ∃ (k : Nat) (A3 : Option Addr) (c3 : Nat), k ≤ 16 ∧ v = .slice A3 k c3 ∧ OwV 58 wr (.slice A3 k c3) (wvs (first16 bs k)) ∧ Kept [] w wr ∧ Hid (∀ g, (Value.slice A3 k c3).ownBlock = some g → w.heap.size ≤ g)) (fun v _ => 16 - slen3 v)
  case atStart => exact ⟨0, none, 0, by omega, rfl, OwV.nil _ _, Kept.refl _ _, Lib.hid (by simp [Value.ownBlock])⟩
  case round =>
    obtain ⟨k, A3, c3, hk, rfl, ho, hK, Hb⟩ := hrel
    by_cases hlt : k < 16
    · have hf := first16_length bs k
      have hw3 : (wvs (first16 bs k)).length = k := by rw [wvs_length]; exact hf
      have H3 := Lib.hid hw3
      clear hf hw3
      go_wp2_with fail
      refine (take4_at A 64 c bs (4 * k) _ _ (hr.kept0 hK) (by omega) (by omega) (by omega)).mono ?_
      rintro e w2 ⟨v2, d2, er2, rfl, hk2⟩
      have hfield := got_field0 (.int .u64 (wv (wd (bs.drop (4 * k))))) v2 d2 er2
      have b0 := wv_nonneg (wd (bs.drop (4 * k)))
      have b1 := wv_lt (wd (bs.drop (4 * k)))
      go_wp2_with (at_builtin; refine wpList_append_vals rfl (.tmp 8) (.tmp 16) 57 rfl 58 i0 _ 4 Tryd.underlying57 hi hz0 hz1 hz2 rfl (.slice A3 k c3) (wvs (first16 bs k)) rfl ((ho.kept0 hk2).alloc _) _ 1 1 [.int .u32 (wv (wd (bs.drop (4 * k))))] rfl (RdV.one w2 _ _) (by simp [Value.oneCell']) (by rw [H3.out]; simp only [maxLen]; omega) (by rw [H3.out]; omega) ?_)
      intro v3 w3 ho3 hk3 hm3
      obtain ⟨hK3, hb3⟩ := app_new ((hK.andThen hk2).alloc _) Hb.out hk3 hm3
      obtain ⟨A4, n4, c4, rfl, hr4, _⟩ := ho3.form
      obtain rfl : k + 1 = n4 := by have := hr4.len; rw [List.length_append, H3.out] at this; exact this
      have ho4 : OwV 58 w3 (.slice A4 (k + 1) c4) (wvs (first16 bs (k + 1))) := by rw [first16, wvs_append]; exact ho3
      have Hb3 := Lib.hid hb3
      clear ho3 hk3 hm3 hr4 hb3 ho hk2 hK b0 b1 hfield
      go_wp2
      go_roundw
      case rel => exact ⟨k + 1, A4, c4, by omega, rfl, ho4, hK3, Hb3⟩
      case measure => simp [slen3]; omega
    · obtain rfl : 16 = k := by omega
      have ho0 : OwV 58 wr (.slice A3 16 c3) (wvs (wordsN bs 0)) := ho
      clear ho hlt hk
      go_wp2
      go_loopw [3, 4] (fun v i wr => ∃ (j n : Nat) (A3 : Option Addr) (c3 : Nat), Hid (j = 16 + n) ∧ 16 ≤ j ∧ j ≤ 64 ∧ i = .int .i64 j ∧ v = .slice A3 j c3 ∧ OwV 58 wr (.slice A3 j c3) (wvs (wordsN bs n)) ∧ Kept [] w wr ∧ Hid (∀ g, (Value.slice A3 j c3).ownBlock = some g → w.heap.size ≤ g)) (fun v _ _ => 64 - slen3 v)
      case atStart => exact ⟨16, 0, A3, c3, Lib.hid rfl, by omega, by omega, rfl, rfl, ho0, hK, Hb⟩
      case round =>
        clear ho0 hK Hb
        obtain ⟨j, n, A3, c3, Hj, hj16, hj64, rfl, rfl, ho, hK, Hb⟩ := hrel
        have hjn := Hj.out
        have hl := wordsN_length bs n
        have hwl : (wvs (wordsN bs n)).length = j := by rw [wvs_length]; omega
        by_cases hlt : j < 64
        · obtain ⟨g, cap, hv, hglt, hgc, hgm, hcell⟩ := ho.at0 (by omega)
          rw [hwl] at hv
          injection hv with hv1 hv2 hv3
          subst hv1 hv3
          obtain ⟨a, ha⟩ : ∃ a : Nat, a = n := ⟨_, rfl⟩
          obtain ⟨b, hbb⟩ : ∃ a : Nat, a = n + 1 := ⟨_, rfl⟩
          obtain ⟨c, hc⟩ : ∃ a : Nat, a = n + 9 := ⟨_, rfl⟩
          obtain ⟨d, hd⟩ : ∃ a : Nat, a = n + 14 := ⟨_, rfl⟩
          have hcl : ∀ t : Nat, t < j → wr.cell? ⟨g, t, none⟩ = some (.int .u32 (wv ((wordsN bs n).getD t 0))) := fun t ht => by
            rw [hcell t (by omega), ← wvs_get (wordsN bs n) t (by omega), List.getElem?_eq_getElem (by omega)]
          have c16 := hcl a (by omega)
          have c15 := hcl b (by omega)
          have c7 := hcl c (by omega)
          have c2 := hcl d (by omega)
          have hx : nextW (wordsN bs n) (16 + n) = (wordsN bs n).getD a 0 + sS0 ((wordsN bs n).getD b 0) + (wordsN bs n).getD c 0 + sS1 ((wordsN bs n).getD d 0) := by
            unfold nextW
            rw [ha, hbb, hc, hd]
            rw [show 16 + n - 16 = n by omega, show 16 + n - 15 = n + 1 by omega, show 16 + n - 7 = n + 9 by omega, show 16 + n - 2 = n + 14 by omega]
          have Hx := Lib.hid hx
          clear hx hcl hcell
          generalize (wordsN bs n).getD a 0 = xa at c16 Hx
          generalize (wordsN bs n).getD b 0 = xb at c15 Hx
          generalize (wordsN bs n).getD c 0 = xc at c7 Hx
          generalize (wordsN bs n).getD d 0 = xd at c2 Hx
          have q16 : IntKind.i64.wrap ((j : Int) - 16) = (a : Int) := by rw [IntWalk.i64_in _ (by omega)]; omega
          have q15 : IntKind.i64.wrap ((j : Int) - 15) = (b : Int) := by rw [IntWalk.i64_in _ (by omega)]; omega
          have q7 : IntKind.i64.wrap ((j : Int) - 7) = (c : Int) := by rw [IntWalk.i64_in _ (by omega)]; omega
          have q2 : IntKind.i64.wrap ((j : Int) - 2) = (d : Int) := by rw [IntWalk.i64_in _ (by omega)]; omega
          have la : (a : Int) < (j : Int) := by omega
          have lb : (b : Int) < (j : Int) := by omega
          have lc : (c : Int) < (j : Int) := by omega
          have ld : (d : Int) < (j : Int) := by omega
          have Hl := Lib.hid hwl
          have SK : Hid (∀ W, Kept [] wr W → W.cell? ⟨g, a, none⟩ = some (.int .u32 (wv xa)) ∧ W.cell? ⟨g, b, none⟩ = some (.int .u32 (wv xb)) ∧ W.cell? ⟨g, c, none⟩ = some (.int .u32 (wv xc)) ∧ W.cell? ⟨g, d, none⟩ = some (.int .u32 (wv xd))) := fun W hk =>
            ⟨(hk.cell (p := ⟨g, a, none⟩) hglt (by simp)).trans c16, (hk.cell (p := ⟨g, b, none⟩) hglt (by simp)).trans c15, (hk.cell (p := ⟨g, c, none⟩) hglt (by simp)).trans c7, (hk.cell (p := ⟨g, d, none⟩) hglt (by simp)).trans c2⟩
          have K0 : Hid (Kept [] wr wr.drew) := (Kept.refl [] wr).drew
          have rw1 : ∀ x y : W32, IntKind.u32.wrap (wv x + wv y) = wv (x + y) := fun x y => (IntKind.wrap_u32' _).trans (wv_add x y)
          clear hl ha hbb hc hd hjn hwl
          go_wp2
          go_region_held3 (fun w' => w'.cell? ⟨g, a, none⟩ = some (.int .u32 (wv xa)) ∧ w'.cell? ⟨g, b, none⟩ = some (.int .u32 (wv xb)) ∧ w'.cell? ⟨g, c, none⟩ = some (.int .u32 (wv xc)) ∧ w'.cell? ⟨g, d, none⟩ = some (.int .u32 (wv xd)))
            (first
              | exact SK.out _ (Kept.refl [] wr)
              | exact SK.out _ K0.out
              | exact SK.out _ hK4.out
              | exact SK.out _ hK5.out
              | exact SK.out _ (hK5.out.alloc _)
              | exact ⟨hS6 g a _ rfl (by rw [Hl.out]; omega) (SK.out _ (hK5.out.alloc _)).1, hS6 g b _ rfl (by rw [Hl.out]; omega) (SK.out _ (hK5.out.alloc _)).2.1, hS6 g c _ rfl (by rw [Hl.out]; omega) (SK.out _ (hK5.out.alloc _)).2.2.1, hS6 g d _ rfl (by rw [Hl.out]; omega) (SK.out _ (hK5.out.alloc _)).2.2.2⟩)
            (first
              | (go_at_call_of 35 xb; refine (rTwo_at xb 7 18 3 _ _ _ _ rfl rfl rfl (by omega) (by omega) (by omega)).mono ?_; rintro e w4 ⟨rfl, hk4⟩; have hK4 := Lib.hid (K0.out.andThen hk4))
              | (go_at_call_of 35 xd; refine (rTwo_at xd 17 19 10 _ _ _ _ rfl rfl rfl (by omega) (by omega) (by omega)).mono ?_; rintro e w5 ⟨rfl, hk5⟩; have hK5 := Lib.hid (hK4.out.andThen hk5))
              | (refine step_append_keep (by rfl) (.tmp 22) (.tmp 50) 57 (by rfl) 58 i0 _ 4 Tryd.underlying57 hi hz0 hz1 hz2 (by rfl) _ (wvs (wordsN bs n)) (by rfl) (ho.kept0 (hK5.out.alloc _)) _ 1 1 _ (by rfl) (RdV.one w5 _ _) (by simp [Value.oneCell']) (by rw [Hl.out]; simp only [maxLen]; omega) (by rw [Hl.out]; omega) ?_; intro v6 w6 ho6 hk6 hm6 hS6))
          obtain ⟨hK6, hb6⟩ := app_new ((hK.andThen hK5.out).alloc _) Hb.out hk6 hm6
          obtain ⟨A4, n4, c4, rfl, hr4, _⟩ := ho6.form
          obtain rfl : j + 1 = n4 := by have := hr4.len; rw [List.length_append, Hl.out] at this; exact this
          have ho7 : OwV 58 w6 (.slice A4 (j + 1) c4) (wvs (wordsN bs (n + 1))) := by
            rw [wordsN, Hx.out, wvs_append, ← two_s0, ← two_s1]; exact ho6
          have Hb6 := Lib.hid hb6
          clear ho6 hr4 hb6 hk6 hm6 hS6 ho hK Hb hk4 hk5 hK4 hK5 SK K0 c16 c15 c7 c2
          go_wp2
          go_roundw
          case rel => exact ⟨j + 1, n + 1, A4, c4, Lib.hid (by have := Hj.out; omega), by omega, by omega, by go_num, rfl, ho7, hK6, Hb6⟩
          case measure => simp [slen3]; omega
        · obtain rfl : n = 48 := by omega
          obtain rfl : 64 = j := by omega
          rw [← words64_eq] at ho
          clear hl hwl hjn
          go_wp2
          go_ret
          exact ⟨_, rfl, ho, hK, Hb.out⟩
end Go.Proofs.YtmhigipljplgdaaDoor
