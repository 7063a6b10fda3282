/-
  Contracts of layer 8 (matrix): products. No statement of the seed is proved here.
-/
import Derived.Test.YtmfbgogfefgglaaM83
import Derived.Test.YtmfbgogfefgglaaM81
import Derived.Test.YtmfbgogfefgglaaM82
namespace Go.Proofs.Ytmfbgogfefgglaa
open Go.RowKit
set_option linter.unusedVariables false

theorem mul8_nil (A : Option Addr) (n c : Nat) (A' : Option Addr) (n' c' : Nat) (w : World) : Calls Try.prog 13 #[.pointer none, .slice A n c, .slice A' n' c'] w fun e w' => e = .returned (.tuple #[.slice none 0 0, .int .i64 15]) ∧ w' = w := by
  go_enter Try.func13, Try.ntmps13
  go_wp2
  go_ret2
  exact ⟨rfl, rfl⟩
/-- Can they be multiplied? -/
def MulP (ls ms : List (List UInt8)) : Prop := ∃ n k l a b, 1 ≤ n ∧ n ≤ 255 ∧ 1 ≤ k ∧ k ≤ 255 ∧ 1 ≤ l ∧ l ≤ 255 ∧ ls = ofm n k a ∧ ms = ofm k l b
set_option maxHeartbeats 1000000 in
theorem mul8_arg (p : Nat) (A : Option Addr) (n c : Nat) (A' : Option Addr) (n' c' : Nat) (ls ms : List (List UInt8)) (w : World) (ha : RdL w A n c ls) (hb : RdL w A' n' c' ms) (h : ¬ MulP ls ms) :
    Calls Try.prog 13 #[.pointer (some ⟨p, 0, none⟩), .slice A n c, .slice A' n' c'] w fun e w' => e = .returned (.tuple #[.slice none 0 0, .int .i64 14]) ∧ w' = w := by
  have HA := Lib.hid ha
  have HB := Lib.hid hb
  have hm := ha.cap
  have hm2 := ha.most
  have hm3 := hb.cap
  have hm4 := hb.most
  unfold maxLen at hm2 hm4
  by_cases hP : RightP ls
  · by_cases hQ : RightP ms
    · obtain ⟨n1, k1, a1, a2, a3, a4, ea⟩ := hP.form
      obtain ⟨n2, k2, b1, b2, b3, b4, eb⟩ := hQ.form
      have e1 : n1 = n := by have := ha.len; rw [ea, ofm_length] at this; exact this
      have e2 : n2 = n' := by have := hb.len; rw [eb, ofm_length] at this; exact this
      subst e1 e2
      have hne : k1 ≠ n2 := fun e => h ⟨n1, k1, k2, _, _, a1, a2, a3, a4, b3, b4, ea, by rw [e]; exact eb⟩
      rw [ea] at ha
      obtain ⟨b, o, bo, of, cc, rfl, hbl, c1, _, d1, d2, hxx⟩ := ha.mrow (by omega) (i := 0) (by omega)
      rw [Nat.add_zero] at c1
      unfold maxLen at d2
      have hne1 : (k1 : Int) ≠ (n2 : Int) := by omega
      have HP := Lib.hid hP
      have HQ := Lib.hid hQ
      clear ha hb h ea eb hP hQ hne hxx
      go_enter Try.func13, Try.ntmps13
      go_wp2_with fail
      refine (right8_any _ _ _ ls _ HA.out).mono ?_
      rintro e w ⟨q, rfl, rfl, Hq⟩
      obtain rfl := Hq.out.2 HP.out
      go_wp2_with fail
      refine (right8_any _ _ _ ms _ HB.out).mono ?_
      rintro e w ⟨q, rfl, rfl, Hq2⟩
      obtain rfl := Hq2.out.2 HQ.out
      go_wp2
      go_ret2
      exact ⟨rfl, rfl⟩
    · have HP := Lib.hid hP
      have HQ := Lib.hid hQ
      clear ha hb h hP hQ
      go_enter Try.func13, Try.ntmps13
      go_wp2_with fail
      refine (right8_any _ _ _ ls _ HA.out).mono ?_
      rintro e w ⟨q, rfl, rfl, Hq⟩
      obtain rfl := Hq.out.2 HP.out
      go_wp2_with fail
      refine (right8_any _ _ _ ms _ HB.out).mono ?_
      rintro e w ⟨q, rfl, rfl, Hq2⟩
      obtain rfl : q = false := by
        cases q with
        | false => rfl
        | true => exact absurd (Hq2.out.1 rfl) HQ.out
      go_wp2
      go_ret2
      exact ⟨rfl, rfl⟩
  · have HP := Lib.hid hP
    clear ha hb h hP
    go_enter Try.func13, Try.ntmps13
    go_wp2_with fail
    refine (right8_any _ _ _ ls _ HA.out).mono ?_
    rintro e w ⟨q, rfl, rfl, Hq⟩
    obtain rfl : q = false := by
      cases q with
      | false => rfl
      | true => exact absurd (Hq.out.1 rfl) HP.out
    go_wp2
    go_ret2
    exact ⟨rfl, rfl⟩
/-- A matrix of the call's own, and an error's number. -/
def MRet2 (n k : Nat) (m : Nat → Nat → GB) (w : World) (e : Ending) (w' : World) : Prop := ∃ R G off, e = .returned (.tuple #[.slice (some ⟨R, 0, none⟩) n n, .int .i64 0]) ∧ OwM w' R G n k off m ∧ w.heap.size ≤ R ∧ w.heap.size ≤ G ∧ Kept [] w w'
set_option maxRecDepth 100000 in
set_option maxHeartbeats 4000000 in
theorem mul8_any (p : Nat) (A : Option Addr) (n c : Nat) (A' : Option Addr) (c' k l : Nat) (a b : Nat → Nat → GB) (w : World) (hT : TabAt w p) (ha : RdL w A n c (ofm n k a)) (hb : RdL w A' k c' (ofm k l b)) (h1 : 1 ≤ n) (h2 : n ≤ 255) (h3 : 1 ≤ k) (h4 : k ≤ 255) (h5 : 1 ≤ l) (h6 : l ≤ 255) :
    Calls Try.prog 13 #[.pointer (some ⟨p, 0, none⟩), .slice A n c, .slice A' k c'] w (MRet2 n l (mm k a b) w) := by
  have HA := Lib.hid ha
  have HB := Lib.hid hb
  have HT := Lib.hid hT
  have hpw := hT.lt
  have hm := ha.cap
  have hm2 := ha.most
  have hm3 := hb.cap
  have hm4 := hb.most
  unfold maxLen at hm2 hm4
  obtain ⟨ba, oa, ba2, oa2, ca2, rfl, hba, ca, _, d1, d2, hx1⟩ := ha.mrow (by omega) (i := 0) (by omega)
  obtain ⟨bb, ob, bb2, ob2, cb2, rfl, hbb, cb, _, d3, d4, hx2⟩ := hb.mrow (by omega) (i := 0) (by omega)
  rw [Nat.add_zero] at ca cb
  unfold maxLen at d2 d4
  have HE : Hid (∀ i j, fsm k (fun t => a i t * b t j) = mm k a b i j) := Lib.hid (fun _ _ => rfl)
  obtain ⟨M, hM⟩ : ∃ M, M = mm k a b := ⟨_, rfl⟩
  rw [← hM] at HE ⊢
  clear hT ha hb hx1 hx2 hM
  go_enter Try.func13, Try.ntmps13
  go_wp2_with fail
  refine (right8_any _ _ _ _ _ HA.out).mono ?_
  rintro e w ⟨q, rfl, rfl, Hq⟩
  obtain rfl := Hq.out.2 (RightP.of h1 h2 h3 h4)
  clear Hq
  go_wp2_with fail
  refine (right8_any _ _ _ _ _ HB.out).mono ?_
  rintro e w ⟨q, rfl, rfl, Hq⟩
  obtain rfl := Hq.out.2 (RightP.of h3 h4 h5 h6)
  clear Hq
  go_wp2_with fail
  refine (blank8_any n l _ _ _ rfl rfl (by omega) (by omega) (by omega)).mono ?_
  rintro e w1 ⟨R, G, off, rfl, hM1, hwR, hwG, hk1⟩
  have HM1 := Lib.hid hM1
  have HK1 := Lib.hid hk1
  clear hM1 hk1 ca cb
  go_wp2
  go_loopw [41] (fun v wr => ∃ r : Nat, r ≤ n ∧ v = .int .i64 (r : Int) ∧ Hid (OwM wr R G n l off (fun x y => if x < r then M x y else 0)) ∧ Hid (Kept [] w wr)) (fun v _ => n - (intOf v).toNat)
  case atStart => exact ⟨0, by omega, rfl, Lib.hid (HM1.out.congr fun x hx y hy => by rw [if_neg (by omega)]), HK1⟩
  case round =>
    clear HM1 HK1
    obtain ⟨r, hr, rfl, HM, HK⟩ := hrel
    by_cases hlt : r < n
    · obtain ⟨b', o', bo', of', cr, e1, _, c2, hbo', b3, b4, hcs⟩ := (HA.out.kept0 HK.out).mrow (by omega) hlt
      injection e1 with e1; injection e1 with e1 e2; subst e1 e2
      unfold maxLen at b4
      have c1 := HM.out.row hlt
      have hbl : bo' < w.heap.size := by
        obtain ⟨b', o', bo2, of2, cr2, e1, _, c22, hbo2, _, _, _⟩ := HA.out.mrow (by omega) hlt
        injection e1 with e1; injection e1 with e1 e2; subst e1 e2
        have h := (HK.out.cell (p := ⟨ba, oa + r, none⟩) hba (by simp)).symm.trans c2
        rw [c22] at h
        injection h with h; injection h with h; injection h with h; injection h with h
        rw [← h]; exact hbo2
      have HX : Hid (∀ j, j < k → w.cell? ⟨bo', of' + j, none⟩ = some (bcell (a r j).v)) := Lib.hid (fun j hj => (HK.out.cell (p := ⟨bo', of' + j, none⟩) hbl (by simp)).symm.trans (hcs j hj))
      obtain ⟨w2, hw2⟩ : ∃ w2, w2 = wr := ⟨_, rfl⟩
      rw [← hw2] at HM HK c1 c2 ⊢
      have HM2 : Hid (OwM w2 R G n l off (fun x y => if x = r then fsm 0 (fun t => a r t * b t y) else if x < r then M x y else 0)) := Lib.hid (HM.out.congr fun x hx y hy => by
        by_cases e : x = r
        · rw [if_pos e, if_neg (by omega)]; rfl
        · rw [if_neg e])
      clear hw2 hcs HM
      go_wp2
      go_loopw [51] (fun v wr => ∃ q : Nat, q ≤ k ∧ v = .int .i64 (q : Int) ∧ Hid (OwM wr R G n l off (fun x y => if x = r then fsm q (fun t => a r t * b t y) else if x < r then M x y else 0)) ∧ Hid (Kept [] w wr)) (fun v _ => k - (intOf v).toNat)
      case atStart => exact ⟨0, by omega, rfl, HM2, HK⟩
      case round =>
        clear HM2 HK c1 c2
        obtain ⟨q, hq, rfl, HM, HK⟩ := hrel
        by_cases hlt2 : q < k
        · have c3 : wr.cell? ⟨bo', of' + q, none⟩ = some (.int .u8 ((a r q).v.toNat : Int)) := (HK.out.cell (p := ⟨bo', of' + q, none⟩) hbl (by simp)).trans (HX.out q hlt2)
          obtain ⟨b', o', bq, oq, cq, e1, _, c4, hbq, b5, b6, hcs⟩ := HB.out.mrow (by omega) hlt2
          injection e1 with e1; injection e1 with e1 e2; subst e1 e2
          unfold maxLen at b6
          have c5 := (HK.out.cell (p := ⟨bb, ob + q, none⟩) hbb (by simp)).trans c4
          obtain ⟨xr, hxr⟩ : ∃ xr, xr = (a r q).v := ⟨_, rfl⟩
          rw [← hxr] at c3
          have hxb := xr.toNat_lt
          have HC : Hid (Calls Try.prog 28 #[.pointer (some ⟨p, 0, none⟩), .slice (some ⟨G, off r, none⟩) l l, .int .u8 (xr.toNat : Int), .slice (some ⟨bq, oq, none⟩) l cq] wr fun e w' => e = .returned (.tuple #[]) ∧ OwM w' R G n l off (fun x y => if x = r then fsm (q + 1) (fun t => a r t * b t y) else if x < r then M x y else 0) ∧ Kept [] w w') := Lib.hid (by
            refine (add8_any p G (off r) l l bq oq cq (a r q) _ (fun y => b q y) (fun y => fsm q (fun t => a r t * b t y)) wr (HT.out.kept0 HK.out) (by omega) (by rw [hxr]) HM.out.blk (fun j hj => ?_) (fun j hj => ?_) (fun e => by omega) (by omega) (Nat.le_refl _) b5).mono ?_
            · have := HM.out.bytes r hlt j hj
              simp only [if_true] at this
              exact this
            · exact (HK.out.cell (p := ⟨bq, oq + j, none⟩) hbq (by simp)).trans (hcs j hj)
            · rintro e w' ⟨rfl, hW⟩
              refine ⟨rfl, (HM.out.wrt hlt hW).congr fun x hx y hy => ?_, HK.out.trans hW.kept (by simp; omega)⟩
              by_cases e : x = r
              · simp only [if_pos e]; rfl
              · simp only [if_neg e])
          clear c4 hcs HM HK hxr
          go_wp2_with fail
          refine HC.out.mono ?_
          rintro e w6 ⟨rfl, h61, h62⟩
          have H61 := Lib.hid h61
          have H62 := Lib.hid h62
          clear h61 h62 HC c3 c5
          go_wp2
          go_roundw
          case rel => exact ⟨q + 1, by omega, by go_num, H61, H62⟩
          case measure => simp [intOf]; omega
        · obtain rfl : k = q := by omega
          have HM' : Hid (OwM wr R G n l off (fun x y => if x < r + 1 then M x y else 0)) := Lib.hid (HM.out.congr fun x hx y hy => by
            by_cases e : x = r
            · rw [if_pos e, if_pos (by omega), HE.out, e]
            · rw [if_neg e]
              by_cases e1 : x < r
              · rw [if_pos e1, if_pos (by omega)]
              · rw [if_neg e1, if_neg (by omega)])
          clear HM
          go_wp2
          go_roundw
          case rel => exact ⟨r + 1, by omega, by go_num, HM', HK⟩
          case measure => simp [intOf]; omega
    · obtain rfl : n = r := by omega
      have HF : Hid (OwM wr R G n l off M) := Lib.hid (HM.out.congr fun x hx y hy => by rw [if_pos hx])
      clear HM
      go_wp2
      go_ret2
      exact ⟨R, G, off, rfl, HF.out, hwR, hwG, HK.out⟩
end Go.Proofs.Ytmfbgogfefgglaa
