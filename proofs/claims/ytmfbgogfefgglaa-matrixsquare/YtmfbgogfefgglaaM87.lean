/-
  Contracts of layer 8 (matrix): the inverse. No statement of the seed is proved here.
-/
import Derived.Test.YtmfbgogfefgglaaM86
import Derived.Test.YtmfbgogfefgglaaM81
import Derived.Test.YtmfbgogfefgglaaM82
import Derived.Test.YtmfbgogfefgglaaCuts
namespace Go.Proofs.Ytmfbgogfefgglaa
open Go.RowKit
set_option linter.unusedVariables false

theorem u8one : (Try.prog.info? 5).map (·.size) = some 1 := by kernel_rfl
theorem inverse8_nil (A : Option Addr) (n c : Nat) (w : World) : Calls Try.prog 19 #[.pointer none, .slice A n c] w fun e w' => e = .returned (.tuple #[.slice none 0 0, .int .i64 15]) ∧ w' = w := by
  go_enter Try.func19, Try.ntmps19
  go_wp2
  go_ret2
  exact ⟨rfl, rfl⟩
/-- Not a matrix, or not as many rows as columns. -/
theorem inverse8_arg (p : Nat) (A : Option Addr) (n c : Nat) (ls : List (List UInt8)) (w : World) (hr : RdL w A n c ls) (h : ¬ RightP ls ∨ ∃ k m, ls = ofm n k m ∧ n ≠ k ∧ 0 < n) :
    Calls Try.prog 19 #[.pointer (some ⟨p, 0, none⟩), .slice A n c] w fun e w' => e = .returned (.tuple #[.slice none 0 0, .int .i64 14]) ∧ w' = w := by
  have HR := Lib.hid hr
  have hm := hr.cap
  have hm2 := hr.most
  unfold maxLen at hm2
  by_cases hP : RightP ls
  · obtain ⟨k, m, hls, hnk, hn0⟩ := h.resolve_left (fun h => h hP)
    obtain ⟨b, off, Ak, nk, ck, l, rfl, hb, c1, g1, r1⟩ := hr.at_ hn0
    have hl := r1.len
    have b1 := r1.cap
    have b2 := r1.most
    unfold maxLen at b2
    have hnk1 : (n : Int) ≠ (nk : Int) := by
      rw [hls, ofm_get hn0] at g1
      have := Option.some.inj g1
      rw [← this, rm_length] at hl
      omega
    rw [Nat.add_zero] at c1
    have HP := Lib.hid hP
    clear hr h hls g1 r1 hl hnk hP
    go_enter Try.func19, Try.ntmps19
    go_wp2_with fail
    refine (right8_any _ _ _ ls _ HR.out).mono ?_
    rintro e w ⟨q, rfl, rfl, Hq⟩
    obtain rfl := Hq.out.2 HP.out
    go_wp2
    go_ret2
    exact ⟨rfl, rfl⟩
  · have HP := Lib.hid hP
    clear hr h hP
    go_enter Try.func19, Try.ntmps19
    go_wp2_with fail
    refine (right8_any _ _ _ ls _ HR.out).mono ?_
    rintro e w ⟨q, rfl, rfl, Hq⟩
    obtain rfl : q = false := by
      cases q with
      | false => rfl
      | true => exact absurd (Hq.out.1 rfl) HP.out
    go_wp2
    go_ret2
    exact ⟨rfl, rfl⟩
/-- The inverse, or none. -/
def InvRet (n : Nat) (m : Nat → Nat → GB) (w : World) (e : Ending) (w' : World) : Prop := Kept [] w w' ∧
  ((e = .returned (.tuple #[.slice none 0 0, .int .i64 11]) ∧ Hid (∃ r, r < n ∧ IsRank n n m r)) ∨
   ∃ R G off x, e = .returned (.tuple #[.slice (some ⟨R, 0, none⟩) n n, .int .i64 0]) ∧ Hid (OwM w' R G n n off x) ∧ w.heap.size ≤ R ∧ w.heap.size ≤ G ∧ Hid (∀ i, i < n → ∀ j, j < n → mm n x m i j = un i j))
set_option maxRecDepth 100000 in
set_option maxHeartbeats 4000000 in
theorem inverse8_any (p : Nat) (A : Option Addr) (n c : Nat) (m : Nat → Nat → GB) (w : World) (hT : TabAt w p) (hr : RdL w A n c (ofm n n m)) (hn1 : 1 ≤ n) (hn2 : n ≤ 255) :
    Calls Try.prog 19 #[.pointer (some ⟨p, 0, none⟩), .slice A n c] w (InvRet n m w) := by
  have HR := Lib.hid hr
  have HT := Lib.hid hT
  have hpw := hT.lt
  have hm := hr.cap
  have hm2 := hr.most
  unfold maxLen at hm2
  obtain ⟨b, o, bo, of, c', rfl, hb, c1, hbo, b1, b2, hxx⟩ := hr.mrow (by omega) (i := 0) (by omega)
  unfold maxLen at b2
  clear hxx
  rw [Nat.add_zero] at c1
  obtain ⟨K, hK⟩ : ∃ K, K = 2 * n := ⟨_, rfl⟩
  have HKe := Lib.hid hK
  have hK1 : n + n ≤ K := by omega
  have hK2 : K ≤ n + n := by omega
  have hmulK : 2 * (n : Int) = (K : Int) := by omega
  clear hT hr hK
  go_enter Try.func19, Try.ntmps19
  go_wp2_with fail
  refine (right8_any _ _ _ _ _ HR.out).mono ?_
  rintro e w ⟨q, rfl, rfl, Hq⟩
  obtain rfl := Hq.out.2 (RightP.of hn1 hn2 hn1 hn2)
  clear Hq
  go_wp2_with fail
  refine (blank8_any n K _ _ _ rfl (by first | rfl | omega) (by omega) (by omega) (by omega)).mono ?_
  rintro e w1 ⟨R, G, off, rfl, hM1, hwR, hwG, hk1⟩
  have HM1 := Lib.hid hM1
  have HK1 := Lib.hid hk1
  clear hM1 hk1 c1 hmulK
  go_wp2
  go_loopw [35] (fun v wr => ∃ r : Nat, r ≤ n ∧ v = .int .i64 (r : Int) ∧ Hid (OwM wr R G n K off (fun a b => if a < r then (if b < n then m a b else un a (b - n)) else 0)) ∧ Hid (Kept [] w wr)) (fun v _ => n - (intOf v).toNat)
  case atStart => exact ⟨0, by omega, rfl, Lib.hid (HM1.out.congr fun a ha b hb => by rw [if_neg (by omega)]), HK1⟩
  case round =>
    clear HM1 HK1
    obtain ⟨r, hr, rfl, HM, HK⟩ := hrel
    by_cases hlt : r < n
    · obtain ⟨b', o', bo', of', cr, e1, _, c2, hbo', b3, b4, hcs⟩ := (HR.out.kept0 HK.out).mrow (by omega) hlt
      injection e1 with e1; injection e1 with e1 e2; subst e1 e2
      unfold maxLen at b4
      have c1 := HM.out.row hlt
      have HX := Lib.hid hcs
      have HY : Hid (∀ j, j < K → wr.cell? ⟨G, off r + j, none⟩ = some (bcell ((fun _ => (0 : GB)) j).v)) := Lib.hid (fun j hj => by have := HM.out.bytes r hlt j hj; simp only [Nat.lt_irrefl, if_false] at this; exact this)
      clear hcs
      go_wp2_with (with_reducible change wpList _ _ _ (⟨_, Op.call _, _, _, _, _⟩ :: _) _ _; refine wpList_copy_wrt rfl (.tmp 40) (.tmp 44) 37 37 rfl 5 Try.underlying37 u8one G (off r) K K bo' of' n cr rfl rfl (by omega) HM.out.blk (fun _ => 0) (fun j => m r j) HY.out HX.out ?_)
      intro w6 hW6
      have HM6 := Lib.hid (HM.out.wrt hlt hW6)
      have HK6 : Hid (Kept [] w w6) := Lib.hid (HK.out.trans hW6.kept (by simp; omega))
      have c6 := HM6.out.byte hlt (j := n + r) (by omega)
      have f6 := HM6.out.frzG (off r + (n + r))
      have hs6 := HM6.out.set hlt (j := n + r) (by omega) 1
      have HS6 : Hid (OwM (w6.setCell ⟨G, off r + (n + r), none⟩ (.int .u8 1)) R G n K off (fun a b => if a < r + 1 then (if b < n then m a b else un a (b - n)) else 0)) := Lib.hid (hs6.congr fun a ha b hb => by
        by_cases e : a = r
        · simp only [if_pos e, if_true]
          rw [if_pos (show a < r + 1 by omega)]
          by_cases e1 : b = n + r
          · rw [if_pos e1, if_neg (by omega), un, if_pos (by omega)]
          · rw [if_neg e1]
            by_cases e2 : b < n
            · rw [if_pos e2, if_pos e2, e]
            · rw [if_neg e2, if_neg e2, un, if_neg (by omega)]
        · simp only [if_neg e]
          by_cases e1 : a < r
          · rw [if_pos e1, if_pos (show a < r + 1 by omega)]
          · rw [if_neg e1, if_neg (show ¬ a < r + 1 by omega)])
      have HK7 : Hid (Kept [] w (w6.setCell ⟨G, off r + (n + r), none⟩ (.int .u8 1))) := Lib.hid (HK6.out.setCell (.inr hwG) _)
      clear hs6 hW6 HM HK HM6 HK6 c1 c2 HX HY
      go_wp2
      generalize w6.setCell ⟨G, off r + (n + r), none⟩ (.int .u8 1) = w7 at *
      clear c6 f6
      go_wp2
      go_roundw
      case rel => exact ⟨r + 1, by omega, by go_num, HS6, HK7⟩
      case measure => simp [intOf]; omega
    · obtain rfl : n = r := by omega
      obtain ⟨w2, hw2⟩ : ∃ w2, w2 = wr := ⟨_, rfl⟩
      rw [← hw2] at HM HK ⊢
      clear hw2
      go_wp2_with fail
      refine (reduce8_any p R G n K n off _ _ w2 (HT.out.kept0 HK.out) (by omega) (by omega) HM.out (by omega) rfl (by omega) (by omega)).mono ?_
      rintro e w3 ⟨r, off', m', rfl, hM3, hG3, hk3⟩
      have HM3 := Lib.hid hM3
      have HK3 : Hid (Kept [] w w3) := Lib.hid (HK.out.trans hk3 (by simp; omega))
      have hrn := hG3.le
      have HRk : Hid (IsRank n n m r) := Lib.hid ((hG3.rank (by omega)).congr fun a ha b hb => by rw [if_pos ha, if_pos hb])
      by_cases hrl : r < n
      · clear hM3 hG3 hk3 HM HK
        go_wp2
        go_ret2
        exact ⟨HK3.out, .inl ⟨rfl, Lib.hid ⟨r, hrl, HRk.out⟩⟩⟩
      · obtain rfl : r = n := by omega
        have HI : Hid (∀ i, i < r → ∀ j, j < r → mm r (fun i j => m' i (r + j)) m i j = un i j) := Lib.hid (by
          rw [HKe.out] at hG3
          exact hG3.inverse (fun i hi j hj => by rw [if_pos hi, if_pos hj]) (fun i hi j hj => by rw [if_pos hi, if_neg (by omega), Nat.add_sub_cancel_left]))
        clear hM3 hG3 hk3 HM HK HRk
        go_wp2_with fail
        refine (blank8_any r r _ _ _ rfl rfl (by omega) (by omega) (by omega)).mono ?_
        rintro e w4 ⟨R2, G2, off2, rfl, hM4, hwR2, hwG2, hk4⟩
        have HM4 := Lib.hid hM4
        have HK4 : Hid (Kept [] w w4) := Lib.hid (HK3.out.andThen hk4)
        have HM3' := Lib.hid (HM3.out.kept0 hk4)
        have hne1 : R ≠ G2 := by have := HM3.out.ltR; omega
        have hne2 : G ≠ G2 := by have := HM3.out.ltG; omega
        have hw2 : w.heap.size ≤ G2 := by have := HK3.out.size; omega
        have hw3 : w.heap.size ≤ R2 := by have := HK3.out.size; omega
        clear hM4 hk4 HM3 HK3
        go_wp2
        go_loopw [63] (fun v wr => ∃ q : Nat, q ≤ r ∧ v = .int .i64 (q : Int) ∧ Hid (OwM wr R2 G2 r r off2 (fun a b => if a < q then m' a (r + b) else 0)) ∧ Hid (OwM wr R G r K off' m') ∧ Hid (Kept [] w wr)) (fun v _ => r - (intOf v).toNat)
        case atStart => exact ⟨0, by omega, rfl, Lib.hid (HM4.out.congr fun a ha b hb => by rw [if_neg (by omega)]), HM3', HK4⟩
        case round =>
          clear HM4 HK4 HM3'
          obtain ⟨q, hq, rfl, HM, HM3, HK⟩ := hrel
          by_cases hlt : q < r
          · have c1 := HM.out.row hlt
            have c2 := HM3.out.row hlt
            have hcut : ∀ W, (Instr.slice 37 (.slice (some ⟨G, off' q, none⟩) K K) (some (.int .i64 (r : Int))) none none).run Try.prog W = .ok (.slice (some ⟨G, off' q + r, none⟩) r r) W := fun W => by
              have he : Try.prog.elem 37 = 5 := by simp [Program.elem, Try.underlying37]
              rw [run_slice_l (P := Try.prog) W 37 _ K K (by rw [he]; exact Try.underlying37) .i64 (r : Int) (by omega) (by omega), size_of_elem 37 5 Try.underlying37 u8one W]
              simp [sliced, Result.andThen, Addr.add_mid, show K ≠ r by omega, show K - r = r by omega]
            have HX : Hid (∀ j, j < r → wr.cell? ⟨G, off' q + r + j, none⟩ = some (bcell (m' q (r + j)).v)) := Lib.hid (fun j hj => by rw [Nat.add_assoc]; exact HM3.out.bytes q hlt (r + j) (by omega))
            have HY : Hid (∀ j, j < r → wr.cell? ⟨G2, off2 q + j, none⟩ = some (bcell ((fun _ => (0 : GB)) j).v)) := Lib.hid (fun j hj => by have := HM.out.bytes q hlt j hj; simp only [Nat.lt_irrefl, if_false] at this; exact this)
            go_wp2_with (with_reducible change wpList _ _ _ (⟨_, Op.call _, _, _, _, _⟩ :: _) _ _; refine wpList_copy_wrt rfl (.tmp 68) (.tmp 74) 37 37 rfl 5 Try.underlying37 u8one G2 (off2 q) r r G (off' q + r) r r rfl rfl (by omega) HM.out.blk (fun _ => 0) (fun j => m' q (r + j)) HY.out HX.out ?_)
            intro w6 hW6
            have HM6 : Hid (OwM w6 R2 G2 r r off2 (fun a b => if a < q + 1 then m' a (r + b) else 0)) := Lib.hid ((HM.out.wrt hlt hW6).congr fun a ha b hb => by
              by_cases e : a = q
              · simp only [if_pos e]
                rw [if_pos hb, if_pos (show a < q + 1 by omega), e]
              · simp only [if_neg e]
                by_cases e1 : a < q
                · rw [if_pos e1, if_pos (by omega)]
                · rw [if_neg e1, if_neg (by omega)])
            have HK6 : Hid (Kept [] w w6) := Lib.hid (HK.out.trans hW6.kept (by simp; omega))
            have HM36 := Lib.hid (HM3.out.kept hW6.kept (by simpa using hne1) (by simpa using hne2))
            clear hW6 HM HK HM3 c1 c2 hcut HX HY
            go_wp2
            go_roundw
            case rel => exact ⟨q + 1, by omega, by go_num, HM6, HM36, HK6⟩
            case measure => simp [intOf]; omega
          · obtain rfl : r = q := by omega
            have HE : Hid (OwM wr R2 G2 r r off2 (fun a b => m' a (r + b))) := Lib.hid (HM.out.congr fun a ha b hb => by rw [if_pos ha])
            clear HM HM3
            go_wp2
            go_ret2
            exact ⟨HK.out, .inr ⟨R2, G2, off2, _, rfl, HE, hw3, hw2, HI⟩⟩
end Go.Proofs.Ytmfbgogfefgglaa
